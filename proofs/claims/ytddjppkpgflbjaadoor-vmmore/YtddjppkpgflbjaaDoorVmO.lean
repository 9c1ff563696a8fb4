/- The law VmMore, walked. -/
import Derived.Test.YtddjppkpgflbjaaDoorVmN
import Derived.Deep.DrawnRows
import Derived.Deep.CutRange
namespace Go.Proofs.YtddjppkpgflbjaaDoor
open Go.RowKit Go.Shelf
attribute [local go_sem ↓] Go.wp_at_zero Go.wp_at_succ

theorem wrap_small {P : Nat} (h : P ≤ 60 * 31) : IntKind.i64.wrap ((P : Nat) : Int) = ((P : Nat) : Int) := by
  simp [IntKind.wrap, IntKind.bits, IntKind.signed]
  omega

theorem isEnd_any (x : VM.In) (w : World) : Calls Tryd.prog 21 (#[.agg #[.int .i64 x.op, .int .i64 x.a, .int .i64 x.b]] ++ #[]) w fun e w' => e = .returned (.bool (decide (x.op = 4))) ∧ Below w.heap.size w w' := by
  obtain ⟨o, a, b⟩ := x
  dsimp only
  have HB : Hid (Below w.heap.size w (w.alloc (.cells #[.int .i64 o, .int .i64 a, .int .i64 b] 50))) := (Below.refl _ w).alloc (Nat.le_refl _) _
  go_enter Tryd.func21, Tryd.ntmps21
  go_wp2_with fail
  go_ret
  exact ⟨ret_bool (by rw [Bool.eq_iff_iff]; simp), HB.out⟩

theorem small_of {B : Nat} {w : World} {sv iv : Value} {c : VM.Co} (h : CoAt B w sv iv c) (hs : isSmall c = true) : Small B w sv iv c ∧ c.ins.length ≤ 60 := by
  unfold isSmall at hs
  simp only [Bool.and_eq_true, decide_eq_true_eq, Bool.not_eq_true', List.any_eq_false] at hs
  obtain ⟨⟨h1, h2⟩, h3⟩ := hs
  exact ⟨⟨h, by omega, by omega, fun s hs => by have := h3 s hs; omega⟩, h2⟩

theorem noEnd_of {c : VM.Co} (h : c.ins.any (fun x => decide (x.op = 4)) = false) : VM.NoEnd c := by
  intro i hi
  rw [List.any_eq_false] at h
  rcases Nat.lt_or_ge i c.ins.length with h1 | h1
  · rw [VM.at_get c h1] at hi
    exact h _ (List.getElem_mem h1) (by simp [hi])
  · unfold VM.at_ at hi
    rw [List.getD_eq_getElem?_getD, List.getElem?_eq_none h1] at hi
    exact absurd hi (by decide)

set_option maxHeartbeats 8000000 in
set_option maxRecDepth 100000 in
theorem more_any (sv iv lv mv : Value) (c : VM.Co) (l m : List Int) (w : World) (F : CoAt w.heap.size w sv iv c) (hT : ET w)
    (hl : PtsAt w.heap.size w lv l) (hln : ∃ ao cap, lv = .slice ao l.length cap ∧ (ao = none → cap = 0)) (hm : PtsAt w.heap.size w mv m) (hmn : ∃ ao cap, mv = .slice ao m.length cap ∧ (ao = none → cap = 0)) :
    Calls Tryd.prog 4 #[.agg #[sv, iv], lv, mv] w fun e w' => e = .returned (.bool true) ∧ Below w.heap.size w w' := by
  have hb0 : Below w.heap.size w (w.alloc (.cells #[sv, iv] 25)) := (Below.refl _ w).alloc (Nat.le_refl _) _
  have H0 := Held.start w sv iv
  have CS := small_any sv iv c _ (F.below hb0 _ hb0.size)
  have HF : Hid (CoAt w.heap.size w sv iv c) := F
  have HT : Hid (ET w) := hT
  have HL : Hid (PtsAt w.heap.size w lv l) := hl
  have HM : Hid (PtsAt w.heap.size w mv m) := hm
  have HLN : Hid (∃ ao cap, lv = .slice ao l.length cap ∧ (ao = none → cap = 0)) := hln
  have HMN : Hid (∃ ao cap, mv = .slice ao m.length cap ∧ (ao = none → cap = 0)) := hmn
  have hT0 := lt_cell hT
  have HH0 : Hid (Held w sv iv (w.alloc (.cells #[sv, iv] 25))) := H0
  have HSM : Hid (isSmall c = true → ∀ W, Held w sv iv W → Small W.heap.size W sv iv c ∧ c.ins.length ≤ 60) := fun hs W hW => by
    have := small_of HF.out hs
    exact ⟨this.1.below hW.2.2.1 _ hW.2.2.1.size, this.2⟩
  obtain ⟨lo, lc, hlv, -⟩ := hln
  obtain ⟨mo, mc, hmv, -⟩ := hmn
  obtain ⟨L, hL⟩ : ∃ L, L = l.length := ⟨_, rfl⟩
  obtain ⟨M, hM⟩ : ∃ M, M = m.length := ⟨_, rfl⟩
  have HLL : Hid (L = l.length) := hL
  have HMM : Hid (M = m.length) := hM
  rw [← hL] at hlv
  rw [← hM] at hmv
  obtain ⟨io, ic, hiv, -, -⟩ := F.2
  obtain ⟨N, hN⟩ : ∃ N, N = c.ins.length := ⟨_, rfl⟩
  have HN : Hid (N = c.ins.length) := hN
  rw [← hN] at hiv
  clear F hT hl hm hb0 H0 hL hM hN
  subst hlv hmv hiv
  go_enter Tryd.func4, Tryd.ntmps4
  go_wp2_with fail
  refine CS.mono ?_
  rintro e w1 ⟨rfl, hb1⟩
  have HH1 : Hid (Held w sv (.slice io N ic) w1) := HH0.out.call hb1
  clear CS hb1
  generalize hq : isSmall c = q at *
  have HQ : Hid (isSmall c = q) := hq
  clear hq
  cases q with
  | false =>
    go_wp2_with fail
    go_ret
    exact ⟨rfl, HH1.out.2.2.1⟩
  | true =>
    have HSM2 : Hid (∀ W, Held w sv (.slice io N ic) W → Small W.heap.size W sv (.slice io N ic) c ∧ c.ins.length ≤ 60) := HSM.out rfl
    clear HSM
    by_cases h30 : L ≤ 30
    · by_cases h31 : M ≤ 30
      · have hz1 : ¬ (30 : Int) < (L : Int) := by omega
        have hz2 : ¬ (30 : Int) < (M : Int) := by omega
        have C2 := matched_any w1
        go_wp2_with fail
        refine C2.mono ?_
        rintro e w2 ⟨rfl, hb2⟩
        have hh2 := HH1.out.call hb2
        have HH2 : Hid (Held w sv (.slice io N ic) w2) := hh2
        obtain ⟨k0, k1, -, -⟩ := hh2
        obtain ⟨S2, hins⟩ := HSM2.out w2 HH2.out
        have C3 := match_any sv _ _ c l w2 S2 (HL.out.below HH2.out.2.2.1 _ HH2.out.2.2.1.size) (by have := HLL.out; omega)
        clear C2 hb2 S2
        go_wp2_with fail
        refine C3.mono ?_
        rintro e w3 ⟨rfl, hb3⟩
        have hh3 := HH2.out.call hb3
        have HH3 : Hid (Held w sv (.slice io N ic) w3) := hh3
        clear C3 hb3 hh3 k0 k1
        obtain ⟨k0, k1, -, -⟩ := HH3.out
        have C4 := codeRight_any sv _ c w3 (HSM2.out w3 HH3.out).1
        have HA : Hid (answer c l = if VM.right c then .tuple #[.bool (VM.run c l [0]).1, .int .i64 ((VM.run c l [0]).2 : Nat), .nilIface] else .tuple #[.bool false, .int .i64 0, .iface 32 (.int .i64 1)]) := rfl
        generalize answer c l = A at *
        cases hr : VM.right c with
        | false =>
          rw [hr] at HA C4
          obtain rfl : A = .tuple #[.bool false, .int .i64 0, .iface 32 (.int .i64 1)] := HA.out
          clear HA hr
          go_wp2_with fail
          refine C4.mono ?_
          rintro e w4 ⟨rfl, hb4⟩
          have HH4 : Hid (Held w sv (.slice io N ic) w4) := HH3.out.call hb4
          clear C4 hb4 k0 k1
          have C5 := tell_errno 1 w4 (HT.out.below HH4.out.2.2.1 hT0)
          go_wp2_with fail
          refine C5.mono ?_
          rintro e w5 ⟨rfl, hb5⟩
          have HH5 : Hid (Held w sv (.slice io N ic) w5) := HH4.out.call hb5
          clear C5 hb5
          go_wp2_with fail
          go_ret
          exact ⟨rfl, HH5.out.2.2.1⟩
        | true =>
          rw [hr] at HA C4
          have HRB : Hid ((VM.run c l [0]).2 ≤ c.ins.length * (l.length + 1) ∧ 1 ≤ (VM.run c l [0]).2) := ⟨VM.run_bound hr l [0] (VM.met_one (VM.right_parts hr).1), VM.run_pos hr l⟩
          obtain rfl : A = .tuple #[.bool (VM.run c l [0]).1, .int .i64 ((VM.run c l [0]).2 : Nat), .nilIface] := HA.out
          have HR : Hid (VM.right c = true) := hr
          clear HA hr
          obtain ⟨R, hRR⟩ : ∃ R, R = VM.run c l [0] := ⟨_, rfl⟩
          have HRR : Hid (R = VM.run c l [0]) := hRR
          rw [← hRR] at HRB ⊢
          clear hRR
          go_wp2_with fail
          refine C4.mono ?_
          rintro e w4 ⟨rfl, hb4⟩
          have hh4 := HH3.out.call hb4
          have HH4 : Hid (Held w sv (.slice io N ic) w4) := hh4
          clear C4 hb4 k0 k1
          obtain ⟨k0, k1, -, -⟩ := hh4
          have hN60 : N ≤ 60 := by have := (HSM2.out w4 HH4.out).2; have := HN.out; omega
          obtain ⟨P, hP⟩ : ∃ P, P = N * (L + 1) := ⟨_, rfl⟩
          have hP0 : P ≤ 60 * 31 := by rw [hP]; exact Nat.mul_le_mul hN60 (by omega)
          have hPI : ((P : Nat) : Int) = (N : Int) * ((L : Int) + 1) := by rw [hP]; simp
          have hW : IntKind.i64.wrap ((N : Int) * ((L : Int) + 1)) = ((P : Nat) : Int) := by rw [← hPI]; exact wrap_small hP0
          obtain ⟨ra, rn⟩ := R
          have hrn := HRB.out
          rw [← HN.out, ← HLL.out, ← hP] at hrn
          have hrn1 : (1 : Int) ≤ (rn : Int) := by omega
          have hrn2 : (rn : Int) ≤ (P : Int) := by omega
          have C6 := contains_ins 21 #[] enters21 (.slice io N ic) c.ins (fun x => decide (x.op = 4)) w4 (HF.out.2.below HH4.out.2.2.1 _ HH4.out.2.2.1.size) (by rw [← HN.out]; omega) (fun k _ W _ => isEnd_any _ W)
          have HNE : Hid (c.ins.any (fun x => decide (x.op = 4)) = false → ra = true → (VM.run c (l ++ m) [0]).1 = true) := fun h h2 => VM.run_more (noEnd_of h) m l [0] (by rw [← HRR.out]; exact h2)
          generalize c.ins.any (fun x => decide (x.op = 4)) = q3 at C6 HNE
          clear hP hP0 hPI hrn
          dsimp only
          go_wp2_with fail
          refine C6.mono ?_
          rintro e w5 ⟨rfl, hb5⟩
          have hh5 := HH4.out.call hb5
          have HH5 : Hid (Held w sv (.slice io N ic) w5) := hh5
          clear C6 hb5 k0 k1
          cases q3 with
          | true =>
            go_wp2_with fail
            go_ret
            exact ⟨rfl, HH5.out.2.2.1⟩
          | false =>
            have HNE2 : Hid (ra = true → (VM.run c (l ++ m) [0]).1 = true) := HNE.out rfl
            clear HNE
            obtain ⟨k0, k1, -, -⟩ := hh5
            have HCL : Hid (Came w.heap.size w (.slice lo L lc) l) := ⟨HL.out, HLN.out, by rw [← HLL.out]; exact h30⟩
            have HCM : Hid (Came w.heap.size w (.slice mo M mc) m) := ⟨HM.out, HMN.out, by rw [← HMM.out]; exact h31⟩
            have HAM : Hid (answer c (l ++ m) = .tuple #[.bool (VM.run c (l ++ m) [0]).1, .int .i64 ((VM.run c (l ++ m) [0]).2 : Nat), .nilIface]) := by
              show answer c (l ++ m) = _
              unfold answer
              rw [HR.out]
              rfl
            have HLM : Hid ((l ++ m).length ≤ 100000) := by
              show (l ++ m).length ≤ 100000
              have := HCL.out.few
              have := HCM.out.few
              rw [List.length_append]
              omega
            go_upto_region 12 with fail
            have hS : Held w sv (.slice io N ic) w5.drew := HH5.out.call (below_drewN (Below.refl _ _) 1)
            go_region_held3 (fun W => W.cell? ⟨w.heap.size, 0, none⟩ = some sv ∧ W.cell? ⟨w.heap.size, 1, none⟩ = some (.slice io N ic) ∧ Below w.heap.size w W ∧ w.heap.size < W.heap.size) (exact Held.open_ (by assumption))
              (first
                | (go_at_call 8; refine C8.mono ?_; rintro e w8 ⟨rfl, hS8⟩; rw [HAM.out])
                | (refine step_append_run (by rfl) _ _ 29 (by rfl) _ _ _ _ (by rfl) (by rfl) HR6.out ?_)
                | (go_at_call 22; refine (clone_held hS HCL.out).mono ?_; rintro e w6 ⟨⟨v6, rfl, ho6⟩, hS6⟩; obtain ⟨v7, w7, hr7, ho7, hS7⟩ := append_held hS6 ho6 HCL.out.few HCM.out; have HR6 : Hid _ := hr7; have C8 := match_held hS7 ho7 HLM.out (HSM2.out w7 hS7).1; clear hr7))
            generalize hb8 : (VM.run c (l ++ m) [0]).1 = b8 at HNE2 ⊢
            clear hb8
            have HH8 : Hid (Below w.heap.size w w8) := hS8.2.2.1
            have HB8 : Hid (ra = true → b8 = true) := HNE2.out
            clear hS hS6 hS7 hS8 ho6 ho7 HR6 C8 HNE2 HAM k0 k1 HLM
            cases ra with
            | false =>
              go_wp2_with fail
              go_ret
              exact ⟨rfl, HH8.out⟩
            | true =>
              obtain rfl : b8 = true := HB8.out rfl
              clear HB8
              go_wp2_with fail
              go_ret
              exact ⟨rfl, HH8.out⟩
      · have hz1 : ¬ (30 : Int) < (L : Int) := by omega
        have hz2 : (30 : Int) < (M : Int) := by omega
        go_wp2_with fail
        go_ret
        exact ⟨rfl, HH1.out.2.2.1⟩
    · have hz1 : (30 : Int) < (L : Int) := by omega
      go_wp2_with fail
      go_ret
      exact ⟨rfl, HH1.out.2.2.1⟩

end Go.Proofs.YtddjppkpgflbjaaDoor
