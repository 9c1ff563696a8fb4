/- The contract of run. -/
import Derived.Test.YtddjppkpgflbjaaDoorVmG
import Derived.Deep.DrawnRows
import Derived.Deep.CutRange
namespace Go.Proofs.YtddjppkpgflbjaaDoor
open Go.RowKit Go.Shelf
attribute [local go_sem ↓] Go.wp_at_zero Go.wp_at_succ

set_option maxHeartbeats 8000000 in
set_option maxRecDepth 100000 in
theorem run_any (sv iv lv : Value) (c : VM.Co) (l : List Int) (w : World) (F : Fit w.heap.size w sv iv lv c l) :
    Calls Tryd.prog 25 #[.agg #[sv, iv], lv] w fun e w' => e = .returned (.tuple #[.bool (VM.run c l [0]).1, .int .i64 ((VM.run c l [0]).2 : Nat)]) ∧ Below w.heap.size w w' := by
  have hlen := F.lens.1
  have hlen1 := (VM.right_parts F.right).1
  have hll := F.lens.2.2.1
  have HF : Hid (Fit w.heap.size w sv iv lv c l) := F
  obtain ⟨ib, ioff, icap, hiv, hib, -⟩ := F.ins
  clear F
  subst hiv
  generalize hR : VM.run c l [0] = R
  have HR : Hid (VM.run c l [0] = R) := hR
  clear hR
  generalize hN : c.ins.length = N at *
  have HN : Hid (c.ins.length = N) := hN
  clear hN
  have HT : Hid (There w.heap.size (.slice (some ⟨ib, ioff, none⟩) N icap) (w.alloc (.cells #[sv, .slice (some ⟨ib, ioff, none⟩) N icap] 25))) := ⟨by simp, by simp⟩
  go_enter Tryd.func25, Tryd.ntmps25
  go_upto_region 1 with fail
  go_cut [6, 7] from 6 to 47 (fun p q W => ∃ bh bx mh hh mx hx, p = .pointer (some ⟨bh, 0, none⟩) ∧ q = .pointer (some ⟨bx, 0, none⟩) ∧ Begun w sv (.slice (some ⟨ib, ioff, none⟩) N icap) N W bh bx mh hh mx hx)
  case first =>
    go_region_held3 (fun W => W.cell? ⟨w.heap.size, 1, none⟩ = some (.slice (some ⟨ib, ioff, none⟩) N icap) ∧ w.heap.size < W.heap.size)
      (repeat (first | exact HT.out | apply There.drew | apply There.alloc | refine There.set ?_ _ (by omega)))
      (first | (go_at_call 43; refine (noneMet_any N _ (by omega)).mono ?_; rintro e w9 ⟨rfl, rfl⟩))
    all_goals go_wp2_with fail
    all_goals go_meet
    all_goals first
      | exact begun_of [(.cells #[sv, .slice (some ⟨ib, ioff, none⟩) N icap] 25), (.cells (flags N []).toArray 4), (.cells #[.slice none 0 0, .slice (some ⟨w.heap.size + 1, 0, none⟩) N N] 85), (.cells (flags N []).toArray 4), (.cells #[.slice none 0 0, .slice (some ⟨w.heap.size + 3, 0, none⟩) N N] 85), (.cells #[.pointer (some ⟨w.heap.size + 2, 0, none⟩)] 82), (.cells #[.pointer (some ⟨w.heap.size + 4, 0, none⟩)] 82)] 5 6 2 1 4 3 rfl rfl rfl rfl rfl rfl rfl rfl rfl rfl (by decide) (by decide)
      | exact begun_of [(.cells #[sv, .slice (some ⟨ib, ioff, none⟩) N icap] 25), (.cells (flags N []).toArray 4), (.cells #[.slice none 0 0, .slice (some ⟨w.heap.size + 1, 0, none⟩) N N] 85), (.cells (flags N []).toArray 4), (.cells #[.slice none 0 0, .slice (some ⟨w.heap.size + 3, 0, none⟩) N N] 85), (.cells #[.pointer (some ⟨w.heap.size + 4, 0, none⟩)] 82), (.cells #[.pointer (some ⟨w.heap.size + 2, 0, none⟩)] 82)] 6 5 2 1 4 3 rfl rfl rfl rfl rfl rfl rfl rfl rfl rfl (by decide) (by decide)
      | exact begun_of [(.cells #[sv, .slice (some ⟨ib, ioff, none⟩) N icap] 25), (.cells (flags N []).toArray 4), (.cells #[.slice none 0 0, .slice (some ⟨w.heap.size + 1, 0, none⟩) N N] 85), (.cells #[.pointer (some ⟨w.heap.size + 2, 0, none⟩)] 82), (.cells (flags N []).toArray 4), (.cells #[.slice none 0 0, .slice (some ⟨w.heap.size + 4, 0, none⟩) N N] 85), (.cells #[.pointer (some ⟨w.heap.size + 5, 0, none⟩)] 82)] 3 6 2 1 5 4 rfl rfl rfl rfl rfl rfl rfl rfl rfl rfl (by decide) (by decide)
      | exact begun_of [(.cells #[sv, .slice (some ⟨ib, ioff, none⟩) N icap] 25), (.cells (flags N []).toArray 4), (.cells #[.slice none 0 0, .slice (some ⟨w.heap.size + 1, 0, none⟩) N N] 85), (.cells #[.pointer (some ⟨w.heap.size + 2, 0, none⟩)] 82), (.cells #[.pointer (some ⟨w.heap.size + 6, 0, none⟩)] 82), (.cells (flags N []).toArray 4), (.cells #[.slice none 0 0, .slice (some ⟨w.heap.size + 5, 0, none⟩) N N] 85)] 3 4 2 1 6 5 rfl rfl rfl rfl rfl rfl rfl rfl rfl rfl (by decide) (by decide)
      | exact begun_of [(.cells #[sv, .slice (some ⟨ib, ioff, none⟩) N icap] 25), (.cells (flags N []).toArray 4), (.cells #[.slice none 0 0, .slice (some ⟨w.heap.size + 1, 0, none⟩) N N] 85), (.cells #[.pointer (some ⟨w.heap.size + 5, 0, none⟩)] 82), (.cells (flags N []).toArray 4), (.cells #[.slice none 0 0, .slice (some ⟨w.heap.size + 4, 0, none⟩) N N] 85), (.cells #[.pointer (some ⟨w.heap.size + 2, 0, none⟩)] 82)] 6 3 2 1 5 4 rfl rfl rfl rfl rfl rfl rfl rfl rfl rfl (by decide) (by decide)
      | exact begun_of [(.cells #[sv, .slice (some ⟨ib, ioff, none⟩) N icap] 25), (.cells (flags N []).toArray 4), (.cells #[.slice none 0 0, .slice (some ⟨w.heap.size + 1, 0, none⟩) N N] 85), (.cells #[.pointer (some ⟨w.heap.size + 6, 0, none⟩)] 82), (.cells #[.pointer (some ⟨w.heap.size + 2, 0, none⟩)] 82), (.cells (flags N []).toArray 4), (.cells #[.slice none 0 0, .slice (some ⟨w.heap.size + 5, 0, none⟩) N N] 85)] 4 3 2 1 6 5 rfl rfl rfl rfl rfl rfl rfl rfl rfl rfl (by decide) (by decide)
      | exact begun_of [(.cells #[sv, .slice (some ⟨ib, ioff, none⟩) N icap] 25), (.cells #[.pointer (some ⟨w.heap.size + 3, 0, none⟩)] 82), (.cells (flags N []).toArray 4), (.cells #[.slice none 0 0, .slice (some ⟨w.heap.size + 2, 0, none⟩) N N] 85), (.cells (flags N []).toArray 4), (.cells #[.slice none 0 0, .slice (some ⟨w.heap.size + 4, 0, none⟩) N N] 85), (.cells #[.pointer (some ⟨w.heap.size + 5, 0, none⟩)] 82)] 1 6 3 2 5 4 rfl rfl rfl rfl rfl rfl rfl rfl rfl rfl (by decide) (by decide)
      | exact begun_of [(.cells #[sv, .slice (some ⟨ib, ioff, none⟩) N icap] 25), (.cells #[.pointer (some ⟨w.heap.size + 3, 0, none⟩)] 82), (.cells (flags N []).toArray 4), (.cells #[.slice none 0 0, .slice (some ⟨w.heap.size + 2, 0, none⟩) N N] 85), (.cells #[.pointer (some ⟨w.heap.size + 6, 0, none⟩)] 82), (.cells (flags N []).toArray 4), (.cells #[.slice none 0 0, .slice (some ⟨w.heap.size + 5, 0, none⟩) N N] 85)] 1 4 3 2 6 5 rfl rfl rfl rfl rfl rfl rfl rfl rfl rfl (by decide) (by decide)
      | exact begun_of [(.cells #[sv, .slice (some ⟨ib, ioff, none⟩) N icap] 25), (.cells #[.pointer (some ⟨w.heap.size + 4, 0, none⟩)] 82), (.cells #[.pointer (some ⟨w.heap.size + 6, 0, none⟩)] 82), (.cells (flags N []).toArray 4), (.cells #[.slice none 0 0, .slice (some ⟨w.heap.size + 3, 0, none⟩) N N] 85), (.cells (flags N []).toArray 4), (.cells #[.slice none 0 0, .slice (some ⟨w.heap.size + 5, 0, none⟩) N N] 85)] 1 2 4 3 6 5 rfl rfl rfl rfl rfl rfl rfl rfl rfl rfl (by decide) (by decide)
      | exact begun_of [(.cells #[sv, .slice (some ⟨ib, ioff, none⟩) N icap] 25), (.cells #[.pointer (some ⟨w.heap.size + 5, 0, none⟩)] 82), (.cells (flags N []).toArray 4), (.cells #[.slice none 0 0, .slice (some ⟨w.heap.size + 2, 0, none⟩) N N] 85), (.cells (flags N []).toArray 4), (.cells #[.slice none 0 0, .slice (some ⟨w.heap.size + 4, 0, none⟩) N N] 85), (.cells #[.pointer (some ⟨w.heap.size + 3, 0, none⟩)] 82)] 6 1 3 2 5 4 rfl rfl rfl rfl rfl rfl rfl rfl rfl rfl (by decide) (by decide)
      | exact begun_of [(.cells #[sv, .slice (some ⟨ib, ioff, none⟩) N icap] 25), (.cells #[.pointer (some ⟨w.heap.size + 6, 0, none⟩)] 82), (.cells (flags N []).toArray 4), (.cells #[.slice none 0 0, .slice (some ⟨w.heap.size + 2, 0, none⟩) N N] 85), (.cells #[.pointer (some ⟨w.heap.size + 3, 0, none⟩)] 82), (.cells (flags N []).toArray 4), (.cells #[.slice none 0 0, .slice (some ⟨w.heap.size + 5, 0, none⟩) N N] 85)] 4 1 3 2 6 5 rfl rfl rfl rfl rfl rfl rfl rfl rfl rfl (by decide) (by decide)
      | exact begun_of [(.cells #[sv, .slice (some ⟨ib, ioff, none⟩) N icap] 25), (.cells #[.pointer (some ⟨w.heap.size + 6, 0, none⟩)] 82), (.cells #[.pointer (some ⟨w.heap.size + 4, 0, none⟩)] 82), (.cells (flags N []).toArray 4), (.cells #[.slice none 0 0, .slice (some ⟨w.heap.size + 3, 0, none⟩) N N] 85), (.cells (flags N []).toArray 4), (.cells #[.slice none 0 0, .slice (some ⟨w.heap.size + 5, 0, none⟩) N N] 85)] 2 1 4 3 6 5 rfl rfl rfl rfl rfl rfl rfl rfl rfl rfl (by decide) (by decide)
  case rest =>
    obtain ⟨bh, bx, mh, hh, mx, hx, rfl, rfl, G⟩ := hcut
    have hM : MetAt w.heap.size wc mh hh (.slice none 0 0) N [] := ⟨⟨G.low.2.2.1, G.low.2.2.2.1⟩, G.sH, ⟨by simp [nums], .inl ⟨rfl, rfl⟩⟩, G.fH⟩
    have g1 : _ := cell_of_row wc bh 0 _ _ _ G.cH
    have HG : Hid (Begun w sv (.slice (some ⟨ib, ioff, none⟩) N icap) N wc bh bx mh hh mx hx) := G
    have C := meet_any w.heap.size mh hh (.slice none 0 0) N 0 [] wc hM (by omega) hlen (VM.met_nil N)
    clear G hM
    simp only [List.getElem?_toArray, List.getElem?_cons_zero] at g1
    go_wp2_with fail
    refine C.mono ?_
    rintro e W1 ⟨rfl, v1, hM1, hb1, -⟩
    have P0 := HG.out.pre hM1 hb1
    have hbw : Below w.heap.size w (W1.alloc (.cells #[.bool false] 4)) := (HG.out.below.trans (hb1.below HG.out.below.size (fun j hj => by
      rcases hj with rfl | rfl | hj
      · exact HG.out.low.2.2.1
      · exact HG.out.low.2.2.2.1
      · simp [Value.ownBlock] at hj))).alloc (by have := HG.out.below.size; have := hb1.size; omega) _
    have e0 : VM.meet [] 0 = [0] := rfl
    rw [e0] at P0
    have HP0 : Hid (Pre w.heap.size ⟨w.heap.size, 0, bx, bh, W1.heap.size, mh, hh, mx, hx⟩ N sv (.slice (some ⟨ib, ioff, none⟩) N icap) (W1.alloc (.cells #[.bool false] 4)) v1 (.slice none 0 0) [0] [] false) := P0
    have HB0 : Hid (Below w.heap.size w (W1.alloc (.cells #[.bool false] 4))) := hbw
    clear P0 hbw C hM1 hb1 HG g1 e0
    generalize hby : W1.heap.size = by_ at *
    go_wp2_with fail
    generalize W1.alloc (.cells #[.bool false] 4) = W2 at *
    obtain ⟨po, pc, hlv, hpc, hpp⟩ := HF.out.pts
    have HPP : Hid (l ≠ [] → ∃ b off, po = some ⟨b, off, none⟩ ∧ b < w.heap.size ∧ ∀ k (h : k < l.length), w.cell? ⟨b, off + k, none⟩ = some (.int .i64 l[k])) := hpp
    clear hpp
    have HRR : Hid (R = VM.run c l [0]) := HR.out.symm
    obtain ⟨L, hL⟩ : ∃ L, L = l.length := ⟨_, rfl⟩
    have HL : Hid (L = l.length) := hL
    rw [← hL] at hlv hpc hll
    clear hL
    subst hlv
    go_loopw [9, 10] (fun u v wr => ∃ (k n : Nat) (h : List Nat) (y : Bool) (vh vx : Value) (s : Site), u = .int .i64 n ∧ v = .int .i64 k ∧ k ≤ L + 1 ∧ n ≤ k * 100000 ∧ s.bc = w.heap.size ∧ s.bx = bx ∧ s.bh = bh ∧ s.by_ = by_ ∧
      Pre w.heap.size s N sv (.slice (some ⟨ib, ioff, none⟩) N icap) wr vh vx h [] y ∧ VM.Met N h ∧ VM.Rest c l k h n y R ∧ Below w.heap.size w wr) (fun _ v _ => L + 1 - (intOf v).toNat)
    case atStart => exact ⟨0, 0, [0], false, v1, .slice none 0 0, _, rfl, rfl, by omega, by omega, rfl, rfl, rfl, rfl, HP0.out, VM.met_one (by omega), VM.rest_start c l R HRR.out, HB0.out⟩
    case round =>
      obtain ⟨k, n, h, y, vh, vx, s, rfl, rfl, hk, hn, hs1, rfl, rfl, rfl, P, hmet, hrest, hbw⟩ := hrel
      obtain ⟨c1, c2, c3, c4⟩ := P.cells
      obtain ⟨ao, cp, rfl⟩ := own_slice P.here.order
      have HP : Hid (Pre w.heap.size s N sv (.slice (some ⟨ib, ioff, none⟩) N icap) wr (.slice ao h.length cp) vx h [] y) := P
      have HS : Hid (s.bc = w.heap.size) := hs1
      have HM : Hid (VM.Met N h) := hmet
      have HRe : Hid (VM.Rest c l k h n y R) := hrest
      have HBW : Hid (Below w.heap.size w wr) := hbw
      clear P hs1 hmet hrest hbw
      have hbw0 := HBW.out.size
      cases y with
      | true =>
        go_wp2_with fail
        go_ret2
        have e := VM.rest_stop HRe.out (.inl rfl)
        rw [e]
        exact ⟨rfl, HBW.out⟩
      | false =>
        by_cases hh0 : h.length = 0
        · have e := VM.rest_stop HRe.out (.inr (List.eq_nil_of_length_eq_zero hh0))
          have HE : Hid (R = (false, n)) := e
          clear e
          rw [hh0] at c4
          go_wp2_with fail
          go_ret2
          rw [HE.out]
          exact ⟨rfl, HBW.out⟩
        · have hk2 : k ≤ L := by
            have := VM.rest_le HRe.out (fun e => hh0 (by rw [e]; rfl))
            rw [HL.out]; exact this
          have hk3 : (k : Int) ≤ (L : Int) := by omega
          have hpl : (L : Int) ≤ (pc : Int) := by omega
          have HPD : Hid ((k = pc → PtsAt w.heap.size w (.slice po (L - k) 0) (l.drop k)) ∧ PtsAt w.heap.size w (.slice (po.map fun x => x.add k) (L - k) (pc - k)) (l.drop k)) := pts_drop HL.out hpc hk2 HPP.out
          have hk4 : (0 : Int) < (h.length : Int) := by omega
          have HH0 : Hid (h ≠ []) := fun e => hh0 (by rw [e]; rfl)
          obtain ⟨H, hH⟩ : ∃ H, H = h.length := ⟨_, rfl⟩
          have HH : Hid (H = h.length) := hH
          rw [← hH] at c4 hh0 hk4
          clear hH
          obtain ⟨bc, bl, bx, bh, by_, mh1, hh1, mx1, hx1⟩ := s
          dsimp only at HS HP c1 c2 c3 c4
          obtain rfl : bc = w.heap.size := HS.out
          clear HP0 HB0
          go_upto_region 7 with fail
          go_cut [11] from 22 to 45 (fun p W => ∃ lv', p = .pointer (some ⟨wr.heap.size, 0, none⟩) ∧ W = wr.alloc (.cells #[lv'] 29) ∧ PtsAt w.heap.size w lv' (l.drop k))
          case first =>
            by_cases hkp : pc = k
            · subst hkp
              go_wp2_with fail
              go_meet
              have hq := HPD.out.1 (by first | rfl | trivial)
              rw [show L - pc = 0 by omega] at hq
              exact ⟨_, rfl, rfl, hq⟩
            · go_wp2_with fail
              go_meet
              exact ⟨_, rfl, rfl, HPD.out.2⟩
          case rest =>
            obtain ⟨lv', rfl, rfl, hpt⟩ := hcut
            have S1 := HP.out.left lv'
            have hb1 : Below w.heap.size w (wr.alloc (.cells #[lv'] 29)) := HBW.out.alloc (by omega) _
            have F1 : Fit w.heap.size (wr.alloc (.cells #[lv'] 29)) sv (.slice (some ⟨ib, ioff, none⟩) N icap) lv' c (l.drop k) :=
              ⟨HF.out.right, HF.out.code.below hb1 _ (Nat.le_refl _), hpt.below hb1 _ (Nat.le_refl _), ⟨HF.out.lens.1, HF.out.lens.2.1, by rw [List.length_drop]; have := HF.out.lens.2.2.1; omega, HF.out.lens.2.2.2⟩⟩
            have hm := HM.out
            have C := each_n w.heap.size _ sv _ lv' c (l.drop k) h [] _ vx _ N HN.out S1 F1 hm (VM.met_nil _)
            rw [← HN.out] at hm
            have hst := VM.rest_step HRe.out HH0.out
            have hcount := VM.each_le F1.right (l.drop k) hm (VM.met_nil _)
            have hmet := VM.each_met F1.right (l.drop k) (c.ins.length + 1) 0 h [] hm (VM.met_nil _)
            have k1 := S1.cells
            generalize VM.each c (l.drop k) (c.ins.length + 1) 0 h [] = E at C hst hcount hmet
            obtain ⟨h1, x1, y1, n1⟩ := E
            dsimp only at C hst hcount hmet k1
            rw [HN.out] at hcount hmet
            have HST : Hid (VM.Rest c l (k + 1) x1 (n + n1) y1 R) := hst
            have HME : Hid (VM.Met N h1 ∧ VM.Met N x1) := ⟨hmet.1, hmet.2.1⟩
            have HB1 : Hid (Below w.heap.size w (wr.alloc (.cells #[lv'] 29))) := hb1
            have HS1 : Hid (∀ j, Turns { bc := w.heap.size, bl := wr.heap.size, bx := bx, bh := bh, by_ := by_, mh := mh1, hh := hh1, mx := mx1, hx := hx1 } (.slice ao h.length cp) vx j → w.heap.size ≤ j) := fun j hj => (turns_low S1 hj).1
            have hn2 : n + n1 ≤ (k + 1) * 100000 := by omega
            clear S1 hb1 F1 hm hst hmet hpt HP HRe
            obtain ⟨-, -, k3, k4, k5, k6, -⟩ := k1
            clear c1 c2 c3 c4
            go_wp2_with fail
            refine C.mono ?_
            rintro e w1 ⟨rfl, v2, v3, S2, hb2, -, -⟩
            have hb3 : Below w.heap.size w w1 := HB1.out.trans (hb2.below HB1.out.size HS1.out)
            have S3 := S2.swap
            obtain ⟨f1, f2, f3, f4⟩ := S2.turning
            have m3 := S2.cells
            clear C k3 k4 k5 k6
            obtain ⟨-, -, -, m4, m5, m6, -⟩ := m3
            dsimp only at f1 f2 f3 f4 m4 m5 m6
            have HS2 : Hid (St w.heap.size { bc := w.heap.size, bl := wr.heap.size, bx := bx, bh := bh, by_ := by_, mh := mh1, hh := hh1, mx := mx1, hx := hx1 } N sv (.slice (some ⟨ib, ioff, none⟩) N icap) lv' w1 v2 v3 h1 x1 y1) := S2
            have HS3 : Hid _ := S3
            have HB3 : Hid (Below w.heap.size w w1) := hb3
            clear S2 S3 hb2 hb3
            go_wp2_with fail
            have CF := forget_any w.heap.size mh1 hh1 v2 N h1 _ HS3.out.next hlen HME.out.1
            refine CF.mono ?_
            rintro e w3 ⟨rfl, v4, hM4, hb4, he4⟩
            have S4 := HS3.out.forgot hM4 hb4 he4
            have P4 := S4.pre
            have hb5 : Below w.heap.size w w3 := (HB3.out.trans (((But.refl (fun j => j = bh ∨ j = bx) w1).set bh 0 _ (.inl (.inl rfl))).set bx 0 _ (.inl (.inr rfl)) |>.below HB3.out.size (fun j hj => by
              have := HS2.out.low
              rcases hj with rfl | rfl
              · exact this.2.1
              · exact this.2.2))).trans (hb4.below HS3.out.size (fun j hj => by
              have := HS3.out.next.low
              rcases hj with rfl | rfl
              · exact this.1
              · exact this.2))
            have HP4 : Hid (Pre w.heap.size { bc := w.heap.size, bl := wr.heap.size, bx := bx, bh := bh, by_ := by_, mh := mx1, hh := hx1, mx := mh1, hx := hh1 } N sv (.slice (some ⟨ib, ioff, none⟩) N icap) w3 v3 v4 x1 [] y1) := P4
            have HB5 : Hid (Below w.heap.size w w3) := hb5
            clear CF hM4 hb4 he4 S4 P4 hb5 f1 f2 f3 f4 m4 m5 m6
            go_wp2_with fail
            go_roundw
            case rel => exact ⟨k + 1, n + n1, x1, y1, v3, v4, _, by go_num, by go_num, by omega, hn2, rfl, rfl, rfl, rfl, HP4.out, HME.out.2, HST.out, HB5.out⟩
            case measure => simp [intOf]; omega

end Go.Proofs.YtddjppkpgflbjaaDoor
