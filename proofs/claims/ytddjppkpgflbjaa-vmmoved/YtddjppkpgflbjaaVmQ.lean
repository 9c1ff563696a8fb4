/- The law VmMoved, walked. -/
import Derived.Test.YtddjppkpgflbjaaVmP
import Derived.Deep.LoopGhost
namespace Go.Proofs.Ytddjppkpgflbjaa
open Go.RowKit Go.Shelf

theorem small_of {B : Nat} {w : World} {sv iv : Value} {c : VM.Co} (h : CoAt B w sv iv c) (hs : isSmall c = true) : Small B w sv iv c ∧ c.ins.length ≤ 60 := by
  unfold isSmall at hs
  simp only [Bool.and_eq_true, decide_eq_true_eq, Bool.not_eq_true', List.any_eq_false] at hs
  obtain ⟨⟨h1, h2⟩, h3⟩ := hs
  exact ⟨⟨h, by omega, by omega, fun s hs => by have := h3 s hs; omega⟩, h2⟩

set_option maxHeartbeats 8000000 in
set_option maxRecDepth 100000 in
theorem moved_any (sv iv lv : Value) (c : VM.Co) (l : List Int) (by_ : Int) (w : World) (F : CoAt w.heap.size w sv iv c)
    (hl : PtsAt w.heap.size w lv l) :
    Calls Try.prog 3 #[.agg #[sv, iv], lv, .int .i64 by_] w fun e w' => e = .returned (.bool true) ∧ Below w.heap.size w w' := by
  have hb0 : Below w.heap.size w (w.alloc (.cells #[sv, iv] 25)) := (Below.refl _ w).alloc (Nat.le_refl _) _
  have H0 := Held.start w sv iv
  have CS := small_any sv iv c _ (F.below hb0 _ hb0.size)
  have HF : Hid (CoAt w.heap.size w sv iv c) := F
  have HL : Hid (PtsAt w.heap.size w lv l) := hl
  have HH0 : Hid (Held w sv iv (w.alloc (.cells #[sv, iv] 25))) := H0
  have HSM : Hid (isSmall c = true → ∀ W, Held w sv iv W → Small W.heap.size W sv iv c ∧ c.ins.length ≤ 60) := fun hs W hW => by
    have := small_of HF.out hs
    exact ⟨this.1.below hW.2.2.1 _ hW.2.2.1.size, this.2⟩
  obtain ⟨lo, lc, hlv, -, -⟩ := hl
  obtain ⟨L, hL⟩ : ∃ L, L = l.length := ⟨_, rfl⟩
  have HLL : Hid (L = l.length) := hL
  rw [← hL] at hlv
  obtain ⟨io, ic, hiv, -, -⟩ := F.2
  obtain ⟨N, hN⟩ : ∃ N, N = c.ins.length := ⟨_, rfl⟩
  have HN : Hid (N = c.ins.length) := hN
  rw [← hN] at hiv
  obtain ⟨so, sc, hsv, -, -⟩ := F.1
  obtain ⟨M, hM⟩ : ∃ M, M = c.sets.length := ⟨_, rfl⟩
  rw [← hM] at hsv
  clear F hb0 H0 hL hN hM
  subst hlv hiv hsv
  go_enter Try.func3, Try.ntmps3
  go_wp2_with fail
  refine CS.mono ?_
  rintro e w1 ⟨rfl, hb1⟩
  have HH1 : Hid (Held w (.slice so M sc) (.slice io N ic) w1) := HH0.out.call hb1
  clear CS hb1
  generalize hq : isSmall c = q at *
  have HQ : Hid (isSmall c = q) := hq
  clear hq
  cases q with
  | false =>
    go_wp2_with fail
    go_ret
    exact ⟨rfl, HH1.out.2.2.1⟩
  | true =>
    have HSM2 : Hid (∀ W, Held w (.slice so M sc) (.slice io N ic) W → Small W.heap.size W (.slice so M sc) (.slice io N ic) c ∧ c.ins.length ≤ 60) := HSM.out rfl
    clear HSM
    by_cases h30 : L ≤ 30
    · have hz1 : ¬ (30 : Int) < (L : Int) := by omega
      have C2 := matched_any w1
      go_wp2_with fail
      refine C2.mono ?_
      rintro e w2 ⟨rfl, hb2⟩
      have hh2 := HH1.out.call hb2
      have HH2 : Hid (Held w (.slice so M sc) (.slice io N ic) w2) := hh2
      obtain ⟨k0, k1, -, -⟩ := hh2
      have hN60 : N ≤ 60 := by have := (HSM2.out w2 HH2.out).2; have := HN.out; omega
      have C4 := codeRight_any _ _ c w2 (HSM2.out w2 HH2.out).1
      clear C2 hb2
      cases hr : VM.right c with
      | false =>
        rw [hr] at C4
        clear hr
        go_wp2_with fail
        refine C4.mono ?_
        rintro e w3 ⟨rfl, hb3⟩
        have HH3 : Hid (Held w (.slice so M sc) (.slice io N ic) w3) := HH2.out.call hb3
        clear C4 hb3 k0 k1
        go_wp2_with fail
        go_ret
        exact ⟨rfl, HH3.out.2.2.1⟩
      | true =>
        rw [hr] at C4
        have HR : Hid (VM.right c = true) := hr
        clear hr
        go_wp2_with fail
        refine C4.mono ?_
        rintro e w3 ⟨rfl, hb3⟩
        have hh3 := HH2.out.call hb3
        have HH3 : Hid (Held w (.slice so M sc) (.slice io N ic) w3) := hh3
        clear C4 hb3 k0 k1
        have hlt3 := HH3.out.2.2.2
        obtain ⟨k0, k1, -, -⟩ := hh3
        have CP := pick_any by_ w3
        go_wp2_with fail
        refine CP.mono ?_
        rintro e w3' ⟨⟨p, hp9, rfl⟩, rfl⟩
        clear CP
        have hbd : Below w3'.heap.size w3' ((w3'.alloc (.cells #[.int .i64 3, .int .i64 (1 + (p : Int)), .int .i64 0] 31)).alloc (.cells #[.slice so M sc, .slice (some ⟨w3'.heap.size, 0, none⟩) 1 1] 25)) := ((Below.refl _ w3').alloc (Nat.le_refl _) _).alloc (by simp) _
        have hh4 := HH3.out.call hbd
        have hrow : Row (w.heap.size + 1) ((w3'.alloc (.cells #[.int .i64 3, .int .i64 (1 + (p : Int)), .int .i64 0] 31)).alloc (.cells #[.slice so M sc, .slice (some ⟨w3'.heap.size, 0, none⟩) 1 1] 25)) (w3'.heap.size + 1) (.slice so M sc) (.slice (some ⟨w3'.heap.size, 0, none⟩) 1 1) (pre (p + 1) 1) := by
          have hs : (w3'.alloc (.cells #[.int .i64 3, .int .i64 (1 + (p : Int)), .int .i64 0] 31)).heap.size = w3'.heap.size + 1 := by simp
          refine ⟨by omega, by rw [← hs]; exact heap_alloc_new _ _, ?_⟩
          refine ⟨rfl, .inr ⟨w3'.heap.size, 1, #[.int .i64 3, .int .i64 (1 + (p : Int)), .int .i64 0], rfl, by omega, ?_, Nat.le_refl _, by unfold maxLen; omega, rfl, ?_⟩⟩
          · rw [heap_alloc_old _ _ (by omega)]
            exact heap_alloc_new _ _
          · show [Value.int .i64 3, .int .i64 (1 + (p : Int)), .int .i64 0] = flat3 (pre (p + 1) 1)
            simp [flat3, pre, cells3]
            omega
        have HH4 : Hid (Held w (.slice so M sc) (.slice io N ic) ((w3'.alloc (.cells #[.int .i64 3, .int .i64 (1 + (p : Int)), .int .i64 0] 31)).alloc (.cells #[.slice so M sc, .slice (some ⟨w3'.heap.size, 0, none⟩) 1 1] 25))) := hh4
        have HROW : Hid (Row (w.heap.size + 1) ((w3'.alloc (.cells #[.int .i64 3, .int .i64 (1 + (p : Int)), .int .i64 0] 31)).alloc (.cells #[.slice so M sc, .slice (some ⟨w3'.heap.size, 0, none⟩) 1 1] 25)) (w3'.heap.size + 1) (.slice so M sc) (.slice (some ⟨w3'.heap.size, 0, none⟩) 1 1) (pre (p + 1) 1)) := hrow
        clear hbd hh4 hrow
        go_wp2_with fail
        generalize (w3'.alloc (.cells #[.int .i64 3, .int .i64 (1 + (p : Int)), .int .i64 0] 31)).alloc (.cells #[.slice so M sc, .slice (some ⟨w3'.heap.size, 0, none⟩) 1 1] 25) = W0 at *
        generalize w3'.heap.size + 1 = bd at *
        clear k0 k1 HH3 HH2 HH1 HH0
        go_loopg [] p (fun g wr => ∃ (j : Nat) (v : Value), g = p + 1 - j ∧ 1 ≤ j ∧ j ≤ p + 1 ∧ Held w (.slice so M sc) (.slice io N ic) wr ∧ Row (w.heap.size + 1) wr bd (.slice so M sc) v (pre (p + 1) j))
        case atStart => exact ⟨1, _, by omega, Nat.le_refl _, by omega, HH4.out, HROW.out⟩
        case round =>
          obtain ⟨j, v, rfl, hj1, hjk, hh, hrow⟩ := hrel
          have hlow := hh.2.2.2
          obtain ⟨r0, r1, rao, rcp, hv⟩ := hrow.cells
          rw [pre_length hj1] at hv
          have HRO : Hid (Row (w.heap.size + 1) wr bd (.slice so M sc) v (pre (p + 1) j)) := hrow
          have HHE : Hid (Held w (.slice so M sc) (.slice io N ic) wr) := hh
          clear hrow hh
          by_cases hlt : j < p + 1
          · obtain ⟨v', W2, hr, hf, ⟨u, hu⟩, hrow', hbel⟩ := HRO.out.add 5 0 0 (by rw [pre_length hj1]; omega) hlow
            rw [pre_snoc hj1] at hrow'
            have HR2 : Hid ((Builtin.append_ #[23, 23] 23 #[v, .slice (some ⟨wr.heap.size, 0, none⟩) 1 1]).run Try.prog (wr.alloc (.cells #[.int .i64 5, .int .i64 0, .int .i64 0] 31)) = .ok v' W2) := hr
            have HRO2 : Hid (Row (w.heap.size + 1) (W2.setCell ⟨bd, 1, none⟩ v') bd (.slice so M sc) v' (pre (p + 1) (j + 1))) := hrow'
            have HHE2 : Hid (Held w (.slice so M sc) (.slice io N ic) (W2.setCell ⟨bd, 1, none⟩ v')) := HHE.out.keep hbel
            obtain ⟨-, -, rao', rcp', hv'⟩ := hrow'.cells
            clear hr hrow' hbel
            have hjz : (j : Int) < 1 + (p : Int) := by omega
            have hbdlt := lt_of_block HRO.out.box_
            have s1 := (HRO.out.below ((Below.refl _ wr).alloc (Nat.le_refl _) (.cells #[.int .i64 5, .int .i64 0, .int .i64 0] 31))).cells.2.1
            subst hv hv'
            go_wp2_with (at_builtin; refine Lib.wpList_append_run _ rfl _ _ _ _ rfl _ _ rfl rfl _ _ HR2.out ?_)
            go_wp2_with fail
            go_roundg (p + 1 - (j + 1))
            case measure => omega
            case rel => exact ⟨j + 1, _, rfl, by omega, by omega, HHE2.out, HRO2.out⟩
          · obtain rfl : j = p + 1 := by omega
            have hjz : ¬ ((p : Int) + 1 < 1 + (p : Int)) := by omega
            subst hv
            go_wp2_with fail
            obtain ⟨W5, hW5⟩ : ∃ W5, W5 = wr := ⟨_, rfl⟩
            subst hW5
            have HRO5 : Hid (Row (w.heap.size + 1) W5 bd (.slice so M sc) (.slice rao (p + 1) rcp) (sofar (p + 1) c.ins 0)) := by
              have := HRO.out
              rw [← sofar_zero (p + 1) c.ins] at this
              exact this
            have HHE5 : Hid (Held w (.slice so M sc) (.slice io N ic) W5) := HHE.out
            clear HRO HHE hlow r0 r1 hlt3
            go_loopw [9] (fun i wr => ∃ (t : Nat) (v : Value), i = .int .i64 t ∧ t ≤ N ∧ Held w (.slice so M sc) (.slice io N ic) wr ∧ Row (w.heap.size + 1) wr bd (.slice so M sc) v (sofar (p + 1) c.ins t)) (fun i _ => N - (intOf i).toNat)
            case atStart => exact ⟨0, _, rfl, Nat.zero_le _, HHE5.out, HRO5.out⟩
            case round =>
              obtain ⟨t, v, rfl, htN, hh, hrow⟩ := hrel
              have hlow := hh.2.2.2
              have hbelow := hh.2.2.1
              have HBE : Hid (Below w.heap.size w wr) := hh.2.2.1
              obtain ⟨r0, r1, rao', rcp', hv⟩ := hrow.cells
              rw [sofar_length (by omega) _ _ (by have := HN.out; omega)] at hv
              obtain ⟨k0, k1, -, -⟩ := hh.open_
              have HRO : Hid (Row (w.heap.size + 1) wr bd (.slice so M sc) v (sofar (p + 1) c.ins t)) := hrow
              have HHE : Hid (Held w (.slice so M sc) (.slice io N ic) wr) := hh
              clear hrow hh hbelow
              by_cases hlt : t < N
              · have hti : t < c.ins.length := by have := HN.out; omega
                obtain ⟨io', ic', hiv', -, hcells⟩ := HF.out.2
                simp only [Value.slice.injEq] at hiv'
                obtain ⟨rfl, -, rfl⟩ := hiv'
                obtain ⟨ib, ioff, rfl, hib, hcs⟩ := hcells (fun e => by rw [e] at hti; simp at hti)
                obtain ⟨i0, i1, i2⟩ := hcs t hti
                have j0 := (HBE.out.cell (p := ⟨ib, ioff + t * 3, none⟩) (by exact hib)).trans i0
                have j1 := (HBE.out.cell (p := ⟨ib, ioff + t * 3 + 1, none⟩) (by exact hib)).trans i1
                have j2 := (HBE.out.cell (p := ⟨ib, ioff + t * 3 + 2, none⟩) (by exact hib)).trans i2
                have hra := VM.right_a HR.out hti
                have hrb := VM.right_b HR.out hti
                rw [VM.at_get c hti] at hra hrb
                rw [← HN.out] at hra hrb
                obtain ⟨x, hx⟩ : ∃ x, x = c.ins[t] := ⟨_, rfl⟩
                have HX : Hid (x = c.ins[t]) := hx
                rw [← hx] at j0 j1 j2 hra hrb
                clear hx hcs hcells i0 i1 i2
                obtain ⟨o, a, b⟩ := x
                dsimp only at j0 j1 j2 hra hrb
                have htz : (t : Int) < (N : Int) := by omega
                by_cases ho2 : o = 2
                · subst ho2
                  have hra' := hra (.inl rfl)
                  have hrb' := hrb rfl
                  clear hra hrb
                  obtain ⟨v', W2, hr, hf, ⟨u, hu⟩, hrow', hbel⟩ := HRO.out.step (by rw [sofar_length (by omega) _ _ (by have := HN.out; omega)]; omega) hlow 2 (a + (1 + (p : Int))) (b + (1 + (p : Int)))
                  rw [← moveIn_split p a b, HX.out, sofar_snoc (p + 1) c.ins t hti] at hrow'
                  have HR2 : Hid ((Builtin.append_ #[23, 23] 23 #[v, .slice (some ⟨wr.heap.size + 1, 0, none⟩) 1 1]).run Try.prog ((wr.alloc (.cells #[.int .i64 2, .int .i64 (a + (1 + (p : Int))), .int .i64 (b + (1 + (p : Int)))] 31)).alloc (.cells #[.int .i64 2, .int .i64 (a + (1 + (p : Int))), .int .i64 (b + (1 + (p : Int)))] 31)) = .ok v' W2) := hr
                  have HRO2 : Hid (Row (w.heap.size + 1) (W2.setCell ⟨bd, 1, none⟩ v') bd (.slice so M sc) v' (sofar (p + 1) c.ins (t + 1))) := hrow'
                  have HHE2 : Hid (Held w (.slice so M sc) (.slice (some ⟨ib, ioff, none⟩) N ic) (W2.setCell ⟨bd, 1, none⟩ v')) := HHE.out.keep hbel
                  obtain ⟨-, -, rao', rcp', hv'⟩ := hrow'.cells
                  clear hr hrow' hbel
                  have s1 := (HRO.out.below ((Below.refl _ wr).alloc (Nat.le_refl _) (.cells #[.int .i64 2, .int .i64 (a + (1 + (p : Int))), .int .i64 (b + (1 + (p : Int)))] 31))).cells.2.1
                  subst hv hv'
                  go_wp2_with (at_builtin; refine Lib.wpList_append_run _ rfl _ _ _ _ rfl _ _ rfl rfl _ _ HR2.out ?_)
                  go_wp2_with fail
                  case roundEnd => exact ⟨⟨t + 1, _, by go_num, by omega, HHE2.out, HRO2.out⟩, by simp [intOf]; omega⟩
                · by_cases ho3 : o = 3
                  · subst ho3
                    have hra' := hra (.inr rfl)
                    clear hra hrb
                    obtain ⟨v', W2, hr, hf, ⟨u, hu⟩, hrow', hbel⟩ := HRO.out.step (by rw [sofar_length (by omega) _ _ (by have := HN.out; omega)]; omega) hlow 3 (a + (1 + (p : Int))) (b)
                    rw [← moveIn_jump p a b, HX.out, sofar_snoc (p + 1) c.ins t hti] at hrow'
                    have HR2 : Hid ((Builtin.append_ #[23, 23] 23 #[v, .slice (some ⟨wr.heap.size + 1, 0, none⟩) 1 1]).run Try.prog ((wr.alloc (.cells #[.int .i64 3, .int .i64 (a + (1 + (p : Int))), .int .i64 (b)] 31)).alloc (.cells #[.int .i64 3, .int .i64 (a + (1 + (p : Int))), .int .i64 (b)] 31)) = .ok v' W2) := hr
                    have HRO2 : Hid (Row (w.heap.size + 1) (W2.setCell ⟨bd, 1, none⟩ v') bd (.slice so M sc) v' (sofar (p + 1) c.ins (t + 1))) := hrow'
                    have HHE2 : Hid (Held w (.slice so M sc) (.slice (some ⟨ib, ioff, none⟩) N ic) (W2.setCell ⟨bd, 1, none⟩ v')) := HHE.out.keep hbel
                    obtain ⟨-, -, rao', rcp', hv'⟩ := hrow'.cells
                    clear hr hrow' hbel
                    have s1 := (HRO.out.below ((Below.refl _ wr).alloc (Nat.le_refl _) (.cells #[.int .i64 3, .int .i64 (a + (1 + (p : Int))), .int .i64 (b)] 31))).cells.2.1
                    subst hv hv'
                    go_wp2_with (at_builtin; refine Lib.wpList_append_run _ rfl _ _ _ _ rfl _ _ rfl rfl _ _ HR2.out ?_)
                    go_wp2_with fail
                    case roundEnd => exact ⟨⟨t + 1, _, by go_num, by omega, HHE2.out, HRO2.out⟩, by simp [intOf]; omega⟩
                  · clear hra hrb
                    have e2 : (o == 2) = false := by simp [ho2]
                    have e3 : (o == 3) = false := by simp [ho3]
                    obtain ⟨v', W2, hr, hf, ⟨u, hu⟩, hrow', hbel⟩ := HRO.out.step (by rw [sofar_length (by omega) _ _ (by have := HN.out; omega)]; omega) hlow o (a) (b)
                    rw [← moveIn_else (p + 1) o a b ho2 ho3, HX.out, sofar_snoc (p + 1) c.ins t hti] at hrow'
                    have HR2 : Hid ((Builtin.append_ #[23, 23] 23 #[v, .slice (some ⟨wr.heap.size + 1, 0, none⟩) 1 1]).run Try.prog ((wr.alloc (.cells #[.int .i64 o, .int .i64 (a), .int .i64 (b)] 31)).alloc (.cells #[.int .i64 o, .int .i64 (a), .int .i64 (b)] 31)) = .ok v' W2) := hr
                    have HRO2 : Hid (Row (w.heap.size + 1) (W2.setCell ⟨bd, 1, none⟩ v') bd (.slice so M sc) v' (sofar (p + 1) c.ins (t + 1))) := hrow'
                    have HHE2 : Hid (Held w (.slice so M sc) (.slice (some ⟨ib, ioff, none⟩) N ic) (W2.setCell ⟨bd, 1, none⟩ v')) := HHE.out.keep hbel
                    obtain ⟨-, -, rao', rcp', hv'⟩ := hrow'.cells
                    clear hr hrow' hbel
                    have s1 := (HRO.out.below ((Below.refl _ wr).alloc (Nat.le_refl _) (.cells #[.int .i64 o, .int .i64 (a), .int .i64 (b)] 31))).cells.2.1
                    subst hv hv'
                    go_wp2_with (at_builtin; refine Lib.wpList_append_run _ rfl _ _ _ _ rfl _ _ rfl rfl _ _ HR2.out ?_)
                    go_wp2_with fail
                    case roundEnd => exact ⟨⟨t + 1, _, by go_num, by omega, HHE2.out, HRO2.out⟩, by simp [intOf]; omega⟩
              · obtain rfl : t = N := by omega
                have htz : ¬ ((t : Int) < (t : Int)) := by omega
                subst hv
                have hrl := VM.right_parts HR.out
                have HRB : Hid ((VM.run c l [0]).2 ≤ 60 * 31) := by
                  have h1 := VM.run_bound HR.out l [0] (VM.met_one hrl.1)
                  have h2 := HN.out
                  have h3 := HLL.out
                  refine Nat.le_trans h1 (Nat.mul_le_mul ?_ ?_) <;> omega
                have hkk : p + 1 + c.ins.length ≤ 2000 := by have := HN.out; omega
                have HA1 : Hid (answer c l = .tuple #[.bool (VM.run c l [0]).1, .int .i64 ((VM.run c l [0]).2 : Nat), .nilIface]) := by
                  show answer c l = _
                  unfold answer
                  rw [HR.out]
                  rfl
                have HA2 : Hid (answer (VM.moved (p + 1) c) l = .tuple #[.bool (VM.run c l [0]).1, .int .i64 ((VM.run c l [0]).2 + 1 : Nat), .nilIface]) := by
                  show answer (VM.moved (p + 1) c) l = _
                  unfold answer
                  rw [VM.moved_right (by omega) HR.out hkk, VM.run_moved (by omega) HR.out l]
                  rfl
                have hll : l.length ≤ 100000 := by have := HLL.out; omega
                have HLL2 : Hid (l.length ≤ 100000) := hll
                have C5 := match_any _ _ _ c l wr (HSM2.out wr HHE.out).1 (HL.out.below HHE.out.2.2.1 _ HHE.out.2.2.1.size) hll
                rw [HA1.out] at C5
                clear hrl hkk hll
                generalize VM.run c l [0] = R at *
                obtain ⟨ra, rn⟩ := R
                dsimp only at C5 HRB HA2
                go_wp2_with fail
                refine C5.mono ?_
                rintro e w5 ⟨rfl, hb5⟩
                have hh5 := HHE.out.call hb5
                have hrow5 := HRO.out.below hb5
                obtain ⟨y0, y1, -⟩ := hrow5.cells
                have hSM5 : Small w5.heap.size w5 (.slice so M sc) (.slice rao' (p + 1 + t) rcp') (VM.moved (p + 1) c) := by
                  refine ⟨⟨(HF.out.below hh5.2.2.1 _ hh5.2.2.1.size).1, ?_⟩, ?_, (HSM2.out w5 hh5).1.lens.2.1, (HSM2.out w5 hh5).1.lens.2.2⟩
                  · rw [← sofar_all]
                    have := hrow5.own
                    rw [HN.out] at this ⊢
                    exact ins_of_own this
                  · rw [VM.moved_length c (by omega)]
                    have := HN.out
                    omega
                have C6 := match_any _ _ _ (VM.moved (p + 1) c) l w5 hSM5 (HL.out.below hh5.2.2.1 _ hh5.2.2.1.size) HLL2.out
                rw [HA2.out] at C6
                have HH5 : Hid (Held w (.slice so M sc) (.slice io t ic) w5) := hh5
                clear C5 hb5 hh5 hrow5 hSM5 r0 r1 k0 k1
                go_wp2_with fail
                refine C6.mono ?_
                rintro e w6 ⟨rfl, hb6⟩
                have HH6 : Hid (Below w.heap.size w w6) := HH5.out.2.2.1.trans (hb6.mono HH5.out.2.2.1.size)
                clear C6 hb6 y0 y1
                have hrn : (rn : Int) ≤ 1860 := by have := HRB.out; omega
                go_wp2_with fail
                go_ret
                exact ⟨rfl, HH6.out⟩
    · have hz1 : (30 : Int) < (L : Int) := by omega
      go_wp2_with fail
      go_ret
      exact ⟨rfl, HH1.out.2.2.1⟩

end Go.Proofs.Ytddjppkpgflbjaa
