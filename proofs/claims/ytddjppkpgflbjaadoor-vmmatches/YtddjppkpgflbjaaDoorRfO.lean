/- The document's own Run, by its own Match. -/
import Derived.Test.YtddjppkpgflbjaaDoorRfI
import Derived.Test.YtddjppkpgflbjaaDoorRfN
namespace VM

theorem says_get (el : Bool) (l : List Int) (rs : List Ru) {i : Nat} (hi : i ≤ l.length) : (saysOf el l rs).getD i false = say el l i rs := by
  unfold saysOf
  rw [List.getD_eq_getElem?_getD, List.getElem?_map, List.getElem?_range (by omega)]
  rfl

theorem say_drop (el : Bool) (l : List Int) (i : Nat) (rs : List Ru) {k : Nat} (hk : k < rs.length) : say el l i (rs.drop k) = if fits l i rs[k] then rs[k].brk else say el l i (rs.drop (k + 1)) := by
  rw [List.drop_eq_getElem_cons hk]
  rfl

theorem say_end (el : Bool) (l : List Int) (i : Nat) (rs : List Ru) {k : Nat} (hk : rs.length ≤ k) : say el l i (rs.drop k) = el := by
  rw [List.drop_of_length_le hk]
  rfl

end VM
namespace Go.Proofs.YtddjppkpgflbjaaDoor
open Go.RowKit Go.Shelf

theorem told_len (S : List Bool) (n i : Nat) (hi : i ≤ n) : (toldOf S n i).length ≤ i + 1 := by
  have h1 := insides_len S i
  unfold toldOf
  by_cases h : i = 0
  · rw [if_pos h]; simp
  · rw [if_neg h, if_pos hi, List.length_cons]; omega

theorem matchSays : MatchSays := fun sv iv lv c l W F hl hn hr =>
  refMatch_right sv iv lv c l W ⟨hr, F.code, hl, ⟨F.lens.1, F.lens.2.1, hn, F.lens.2.2⟩⟩

set_option maxHeartbeats 1000000 in
set_option maxRecDepth 100000 in
theorem refMatch_wrong (sv iv lv : Value) (c : VM.Co) (w : World) (F : Small w.heap.size w sv iv c) (hr : VM.right c = false) :
    Calls Tryd.prog 7 #[.agg #[sv, iv], lv] w fun e w' => e = .returned (.tuple #[.bool false, .int .i64 0, .int .i64 1]) ∧ Below w.heap.size w w' := by
  have hb0 : Below w.heap.size w (w.alloc (.cells #[sv, iv] 25)) := (Below.refl _ w).alloc (Nat.le_refl _) _
  have C1 := refRight_any sv iv c (w.alloc (.cells #[sv, iv] 25)) (F.below hb0 _ hb0.size)
  rw [hr] at C1
  have hc0 : (w.alloc (.cells #[sv, iv] 25)).heap[w.heap.size]? = some (.cells #[sv, iv] 25 (0, 0)) := heap_alloc_new _ _
  have hk0 := cell_of_row _ _ 0 _ _ _ hc0
  have hk1 := cell_of_row _ _ 1 _ _ _ hc0
  simp only [List.getElem?_toArray, List.getElem?_cons_zero, List.getElem?_cons_succ] at hk0 hk1
  have HB0 : Hid (Below w.heap.size w (w.alloc (.cells #[sv, iv] 25))) := hb0
  have hs0 : (w.alloc (.cells #[sv, iv] 25)).heap.size = w.heap.size + 1 := by simp
  clear F hb0 hc0
  generalize hW0 : w.alloc (.cells #[sv, iv] 25) = W0 at *
  go_enter Tryd.func7, Tryd.ntmps7
  go_wp2_with fail
  refine C1.mono ?_
  rintro e w1 ⟨rfl, hb1⟩
  have HB1 : Hid (Below w.heap.size w w1) := HB0.out.trans (hb1.mono (by omega))
  clear C1 hb1 hk0 hk1
  go_wp2_with fail
  go_ret3
  exact ⟨rfl, HB1.out⟩

set_option maxHeartbeats 4000000 in
set_option maxRecDepth 100000 in
theorem run_by (hM : MatchSays) (rv lv : Value) (el : Bool) (rs : List VM.Ru) (l : List Int) (w : World) (hR : PairsAt w.heap.size w rv rs) (hl : PtsAt w.heap.size w lv l) (hn : l.length ≤ 100000) (hr : rs.length ≤ 100000) :
    Calls Tryd.prog 14 #[.agg #[rv, .bool el], lv] w fun e w' => RunSay (VM.rightProg rs) (VM.saysOf el l rs) l.length e w' ∧ Below w.heap.size w w' := by
  have hb0 : Below w.heap.size w (w.alloc (.cells #[rv, .bool el] 28)) := (Below.refl _ w).alloc (Nat.le_refl _) _
  have HB0 : Hid (Below w.heap.size w (w.alloc (.cells #[rv, .bool el] 28))) := hb0
  have C1 := refProg_any rv el rs (w.alloc (.cells #[rv, .bool el] 28)) (hR.below hb0 _ hb0.size) hr
  have hc0 : (w.alloc (.cells #[rv, .bool el] 28)).cell? ⟨w.heap.size, 0, none⟩ = some rv := by simp
  have hc1 : (w.alloc (.cells #[rv, .bool el] 28)).cell? ⟨w.heap.size, 1, none⟩ = some (.bool el) := by simp
  have hsz0 : (w.alloc (.cells #[rv, .bool el] 28)).heap.size = w.heap.size + 1 := by simp
  have HRR : Hid (PairsAt w.heap.size w rv rs) := hR
  have HLL : Hid (PtsAt w.heap.size w lv l) := hl
  have HMM : Hid MatchSays := hM
  have HPR : Hid (VM.rightProg rs = true → ∀ r ∈ rs, VM.right r.before = true ∧ VM.right r.after = true) := fun h r hr => by
    unfold VM.rightProg at h
    rw [Bool.and_eq_true, List.all_eq_true] at h
    have := h.2 r hr
    rwa [Bool.and_eq_true] at this
  obtain ⟨ao, cap, hrv, hrc, hrcell⟩ := hR
  obtain ⟨lo, lcap, hlv, hlc, -⟩ := hl
  have hSl : (VM.saysOf el l rs).length = l.length + 1 := by simp [VM.saysOf]
  have HSL : Hid ((VM.saysOf el l rs).length = l.length + 1) := hSl
  have HRC : Hid _ := hrcell
  generalize hq : VM.rightProg rs = q at C1 HPR ⊢
  obtain ⟨R, hRn⟩ : ∃ R, R = rs.length := ⟨_, rfl⟩
  obtain ⟨n, hN⟩ : ∃ n, n = l.length := ⟨_, rfl⟩
  have HRN : Hid (R = rs.length) := hRn
  have HN : Hid (n = l.length) := hN
  rw [← hN] at hlv hlc hn ⊢
  rw [← hRn] at hrv hrc hr
  clear hN hb0 hRn hM hq hrcell
  subst hrv hlv
  generalize hW0 : w.alloc (.cells #[Value.slice ao R cap, .bool el] 28) = W0 at *
  generalize hS : VM.saysOf el l rs = S
  have HS : Hid (VM.saysOf el l rs = S) := hS
  clear hS
  go_enter Tryd.func14, Tryd.ntmps14
  go_wp2_with fail
  refine C1.mono ?_
  rintro e w1 ⟨rfl, hb1⟩
  have hbw1 : Below (w.heap.size + 1) W0 w1 := hb1.mono (by omega)
  have HB1 : Hid (Below w.heap.size w w1) := HB0.out.trans (hbw1.mono (by omega))
  have HBW1 : Hid (Below (w.heap.size + 1) W0 w1) := hbw1
  have HC : Hid (∀ wr, Below (w.heap.size + 1) W0 wr → wr.cell? ⟨w.heap.size, 0, none⟩ = some (Value.slice ao R cap) ∧ wr.cell? ⟨w.heap.size, 1, none⟩ = some (.bool el) ∧ Below w.heap.size w wr ∧ w.heap.size + 1 ≤ wr.heap.size) := fun wr h => ⟨(h.cell (p := ⟨w.heap.size, 0, none⟩) (by simp)).trans hc0, (h.cell (p := ⟨w.heap.size, 1, none⟩) (by simp)).trans hc1, HB0.out.trans (h.mono (by omega)), by have := h.size; omega⟩
  clear C1 hb1 hbw1 hc0 hc1
  cases q with
  | false =>
    go_wp2_with fail
    go_ret2
    exact ⟨⟨fun h => absurd h (by decide), (fun _ => rfl)⟩, HB1.out⟩
  | true =>
    have HPR1 := HPR.out rfl
    have HPR2 : Hid _ := HPR1
    clear HPR1
    go_wp2_with fail
    have hs0 : W0.heap.size = w.heap.size + 1 := by rw [← hW0]; simp
    go_loopw [6, 7] (fun v ix wr => ∃ i : Nat, ix = .int .i64 i ∧ i ≤ n + 1 ∧ (n = 0 → i = 0) ∧ wr.ownsRow (w.heap.size + 1) 3 1 v (toldOf S n i).length (ptsV (toldOf S n i)) ∧ Below (w.heap.size + 1) W0 wr) (fun _ ix _ => n + 1 - (intOf ix).toNat)
    case atStart => exact ⟨0, rfl, Nat.zero_le _, fun _ => rfl, ⟨by simp [toldOf, ptsV], .inl ⟨rfl, rfl⟩⟩, HBW1.out⟩
    case round =>
      obtain ⟨i, rfl, hi, hi0, hown, hb⟩ := hrel
      have HB : Hid (Below (w.heap.size + 1) W0 wr) := hb
      have HO : Hid (wr.ownsRow (w.heap.size + 1) 3 1 u6 (toldOf S n i).length (ptsV (toldOf S n i))) := hown
      have hsz := hb.size
      by_cases hn0 : n = 0
      · have hi1 := hi0 hn0
        subst hi1
        have hz : ¬ ((0 : Int) < (n : Int)) := by omega
        subst hn0
        have HBB := (HC.out wr hb).2.2.1
        have HBB' : Hid (Below w.heap.size w wr) := HBB
        clear hb hown hi hi0 HBB
        go_wp2_with fail
        go_ret2
        refine ⟨⟨fun _ => ⟨_, rfl, ?_⟩, (fun h => absurd h (by decide))⟩, HBB'.out⟩
        have := HO.out
        rw [show toldOf S 0 0 = [] from rfl] at this
        have e : breaksOf S 0 = [] := by unfold breaksOf; rw [if_pos rfl]
        have h2 := pts_of_own this
        rw [← e] at h2
        exact h2
      · by_cases hin : i ≤ n
        · have hcs := HC.out wr hb
          have hlw := HLL.out.below hcs.2.2.1 _ hcs.2.2.1.size
          have C2 := sides_any (.slice lo n lcap) l i wr hlw (by rw [← HN.out]; exact hn) (by rw [← HN.out]; exact hin)
          have hz : (0 : Int) < (n : Int) := by omega
          have hiz : (i : Int) ≤ (n : Int) := by omega
          clear hb hown hcs hlw
          go_wp2_with fail
          refine C2.mono ?_
          rintro e w2 ⟨⟨bv, fv, rfl, hob, hpf⟩, hb2⟩
          have hbl : PtsAt w2.heap.size w2 bv (l.take i).reverse := by
            refine pts_of_own (B := wr.heap.size) ?_
            have e : (l.take i).reverse.length = i := by simp; rw [← HN.out]; omega
            rw [e]
            exact hob
          have HBL : Hid (PtsAt w2.heap.size w2 bv (l.take i).reverse) := hbl
          have HFL : Hid (PtsAt w2.heap.size w2 fv (l.drop i)) := hpf
          have hbn := HB.out.trans (hb2.mono (by omega))
          have HB2 : Hid (Below (w.heap.size + 1) W0 w2) := hbn
          have HO2 : Hid (w2.ownsRow (w.heap.size + 1) 3 1 u6 (toldOf S n i).length (ptsV (toldOf S n i))) := own_but HO.out (But.of_below hb2 (fun _ => False)) (fun _ _ => id)
          obtain ⟨d0, d1, d2, d3⟩ := HC.out w2 hbn
          clear C2 hb2 hob hpf hbl hbn d2 d3 HO
          go_wp2_with fail
          clear d0 d1
          go_loopw [10, 11] (fun bx kx W => ∃ k : Nat, kx = .int .i64 ((k : Int) - 1) ∧ k ≤ R ∧ bx = .bool (VM.say el l i (rs.drop k)) ∧ Below w2.heap.size w2 W) (fun _ kx _ => (intOf kx + 1).toNat)
          case atStart => exact ⟨R, by go_num, Nat.le_refl _, by rw [VM.say_end el l i rs (by rw [HRN.out]; exact Nat.le_refl _)], Below.refl _ _⟩
          case round =>
            obtain ⟨k, rfl, hk, rfl, hb3⟩ := hrel
            have hw2 := HB2.out.size
            have hb5 := HB2.out.trans (hb3.mono (by omega))
            have HB3 : Hid (Below (w.heap.size + 1) W0 wr) := hb5
            have HB3' : Hid (Below w2.heap.size w2 wr) := hb3
            obtain ⟨d0, d1, d2, d3⟩ := HC.out wr hb5
            cases k with
            | zero =>
              have HO3 : Hid (wr.ownsRow (w.heap.size + 1) 3 1 u6 (toldOf S n i).length (ptsV (toldOf S n i))) := own_but HO2.out (But.of_below hb3 (fun _ => False)) (fun _ _ => id)
              have HTS : Hid (toldOf S n (i + 1) = if (VM.say el l i rs || decide (i = 0) || decide (i = n)) then toldOf S n i ++ [(i : Int)] else toldOf S n i) := by
                show _ = _
                rw [told_succ S n i (by omega) hin, ← HS.out, VM.says_get el l rs (by rw [← HN.out]; exact hin)]
              have HTL : Hid ((toldOf S n i).length ≤ 200000) := by
                show _ ≤ _
                have := told_len S n i hin
                omega
              obtain ⟨v', W2, hr, h2, h3⟩ := own_more (i : Int) HO3.out HTL.out (by omega)
              have HR9 : Hid _ := hr
              have HB4 : Hid (Below (w.heap.size + 1) W0 W2) := HB3.out.trans h3
              have HO4 : Hid (W2.ownsRow (w.heap.size + 1) 3 1 v' (toldOf S n i ++ [(i : Int)]).length (ptsV (toldOf S n i ++ [(i : Int)]))) := h2
              clear d0 d1 d2 d3 hb5 hb3 hr h2 h3 hk hSl
              rw [List.drop_zero]
              rw [show ((0 : Nat) : Int) - 1 = -1 from rfl]
              generalize VM.say el l i rs = bb at *
              cases bb with
              | true =>
                go_wp2_with (at_builtin; refine Lib.wpList_append_run _ rfl _ _ _ _ rfl _ _ rfl rfl _ _ HR9.out ?_)
                go_wp2_with fail
                case roundEnd => exact ⟨⟨i + 1, by go_num, by omega, fun h => absurd h hn0, by rw [HTS.out]; exact HO4.out, HB4.out⟩, by simp [intOf]; omega⟩
              | false =>
                by_cases h0 : i = 0
                · subst h0
                  go_wp2_with (at_builtin; refine Lib.wpList_append_run _ rfl _ _ _ _ rfl _ _ rfl rfl _ _ HR9.out ?_)
                  go_wp2_with fail
                  case roundEnd => exact ⟨⟨0 + 1, by go_num, by omega, fun h => absurd h hn0, by have := HTS.out; simp only [decide_true, Bool.or_true, Bool.true_or, if_true] at this; rw [this]; exact HO4.out, HB4.out⟩, by simp [intOf]⟩
                · have hz0 : ((i : Int) == 0) = false := by simp; omega
                  by_cases h1 : i = n
                  · have HH1 : Hid (i = n) := h1
                    have hz1 : ((i : Int) == (n : Int)) = true := by simp; omega
                    clear h1
                    go_wp2_with (at_builtin; refine Lib.wpList_append_run _ rfl _ _ _ _ rfl _ _ rfl rfl _ _ HR9.out ?_)
                    go_wp2_with fail
                    case roundEnd => exact ⟨⟨i + 1, by go_num, by omega, fun h => absurd h hn0, by have := HTS.out; rw [if_pos (by simp [HH1.out])] at this; rw [this]; exact HO4.out, HB4.out⟩, by simp [intOf]; omega⟩
                  · have hz1 : ((i : Int) == (n : Int)) = false := by simp; omega
                    have HH1 : Hid (¬ i = n) := h1
                    have HH0 : Hid (¬ i = 0) := h0
                    go_wp2_with fail
                    case roundEnd => exact ⟨⟨i + 1, by go_num, by omega, fun h => absurd h hn0, by have := HTS.out; rw [if_neg (by simp [HH1.out, HH0.out])] at this; rw [this]; exact HO3.out, HB3.out⟩, by simp [intOf]; omega⟩
            | succ k =>
              have hkr : k < rs.length := by rw [← HRN.out]; omega
              obtain ⟨b, off, rfl, hbw, hcs⟩ := HRC.out (fun e => by rw [e] at hkr; simp at hkr)
              obtain ⟨sv, iv, sv2, iv2, ⟨i0, i1, i2, i3, i4⟩, hpa⟩ := hcs k hkr
              have j0 := (d2.cell (p := ⟨b, off + k * 5, none⟩) (by exact hbw)).trans i0
              have j1 := (d2.cell (p := ⟨b, off + k * 5 + 1, none⟩) (by exact hbw)).trans i1
              have j2 := (d2.cell (p := ⟨b, off + k * 5 + 2, none⟩) (by exact hbw)).trans i2
              have HJ : Hid (∀ W, Below w.heap.size w W → W.cell? ⟨b, off + k * 5, none⟩ = some (.bool rs[k].brk) ∧ W.cell? ⟨b, off + k * 5 + 3, none⟩ = some sv2 ∧ W.cell? ⟨b, off + k * 5 + 4, none⟩ = some iv2) := fun W hW => ⟨(hW.cell (p := ⟨b, off + k * 5, none⟩) (by exact hbw)).trans i0, (hW.cell (p := ⟨b, off + k * 5 + 3, none⟩) (by exact hbw)).trans i3, (hW.cell (p := ⟨b, off + k * 5 + 4, none⟩) (by exact hbw)).trans i4⟩
              have hrr := HPR2.out rs[k] (List.getElem_mem _)
              have HSD : Hid (VM.say el l i (rs.drop k) = if VM.fits l i rs[k] then rs[k].brk else VM.say el l i (rs.drop (k + 1))) := VM.say_drop el l i rs hkr
              have hpw := hpa.below d2 _ d2.size
              have HPA : Hid _ := hpa
              have hlB := HBL.out.below hb3 _ hb3.size
              have C1 := HMM.out sv iv bv rs[k].before (l.take i).reverse wr hpw.before hlB (by simp; omega) hrr.1
              have HRR2 : Hid (VM.right rs[k].after = true) := hrr.2
              obtain ⟨fa, hfa⟩ : ∃ fa, fa = (VM.run rs[k].before (l.take i).reverse [0]).1 := ⟨_, rfl⟩
              obtain ⟨fb, hfb⟩ : ∃ fb, fb = (VM.run rs[k].after (l.drop i) [0]).1 := ⟨_, rfl⟩
              have HFB : Hid (fb = (VM.run rs[k].after (l.drop i) [0]).1) := hfb
              have hff : VM.fits l i rs[k] = (fa && fb) := by unfold VM.fits; rw [hfa, hfb]
              rw [hff] at HSD
              rw [← hfa] at C1
              generalize (VM.run rs[k].before (l.take i).reverse [0]).2 = na at C1
              have hkz : (k : Int) < (R : Int) := by omega
              have hk1 : IntKind.i64.wrap ((k : Int) + 1 - 1) = k := by rw [show (k : Int) + 1 - 1 = k by omega]; exact wrap_little (by omega) (by omega)
              rw [show ((k + 1 : Nat) : Int) - 1 = (k : Int) by omega]
              generalize VM.say el l i (rs.drop (k + 1)) = bb at *
              clear hlB hpw hpa hcs i0 i1 i2 i3 i4 hb3 hb5 d2 d3 hrr hfa hfb hff hSl
              go_wp2_with fail
              refine C1.mono ?_
              rintro e w3 ⟨rfl, hb6⟩
              have hw3 := HB3'.out.size
              have hb7 := HB3.out.trans (hb6.mono (by omega))
              have HB7 : Hid _ := hb7
              have HB7' : Hid (Below w2.heap.size w2 w3) := HB3'.out.trans (hb6.mono hw3)
              clear C1 d0 d1 j0 j1 j2
              obtain ⟨d0, d1, d2, d3⟩ := HC.out w3 hb7
              obtain ⟨j0, j3, j4⟩ := HJ.out w3 d2
              have C2 := HMM.out sv2 iv2 fv rs[k].after (l.drop i) w3 (HPA.out.after.below d2 _ d2.size) (HFL.out.below HB7'.out _ HB7'.out.size) (by rw [List.length_drop, ← HN.out]; omega) HRR2.out
              rw [← HFB.out] at C2
              generalize (VM.run rs[k].after (l.drop i) [0]).2 = nb at C2
              clear hb6 hb7 d2
              go_wp2_with fail
              refine C2.mono ?_
              rintro e w4 ⟨rfl, hb6⟩
              have hw4 := HB7'.out.size
              have hb7 := HB7.out.trans (hb6.mono (by omega))
              have HB8 : Hid _ := hb7
              have HB8' : Hid (Below w2.heap.size w2 w4) := HB7'.out.trans (hb6.mono hw4)
              clear C2 d0 d1 j0 j3 j4
              obtain ⟨d0, d1, d2, d3⟩ := HC.out w4 hb7
              obtain ⟨j0, j3, j4⟩ := HJ.out w4 d2
              generalize rs[k].brk = br at *
              clear hb6 hb7 d2 d1 j3 j4
              cases fa with
              | true =>
                cases fb with
                | true =>
                  go_wp2_with fail
                  case roundEnd => exact ⟨⟨k, by go_num, by omega, by rw [HSD.out]; rfl, HB8'.out⟩, by simp [intOf]⟩
                | false =>
                  go_wp2_with fail
                  case roundEnd => exact ⟨⟨k, by go_num, by omega, by rw [HSD.out]; rfl, HB8'.out⟩, by simp [intOf]⟩
              | false =>
                go_wp2_with fail
                case roundEnd => exact ⟨⟨k, by go_num, by omega, by rw [HSD.out]; rfl, HB8'.out⟩, by simp [intOf]⟩
        · obtain rfl : i = n + 1 := by omega
          have hz : (0 : Int) < (n : Int) := by omega
          have hiz : ¬ ((n : Int) + 1 ≤ (n : Int)) := by omega
          have HN0 : Hid (¬ n = 0) := hn0
          have HBB := (HC.out wr hb).2.2.1
          have HBB' : Hid (Below w.heap.size w wr) := HBB
          clear hb hown hi hi0 HBB
          go_wp2_with fail
          go_ret2
          refine ⟨⟨fun _ => ⟨_, rfl, ?_⟩, (fun h => absurd h (by decide))⟩, HBB'.out⟩
          have e : toldOf S n (n + 1) = breaksOf S n := by
            unfold toldOf breaksOf
            rw [if_neg (Nat.succ_ne_zero _), if_neg (by omega), if_neg HN0.out]
          have := HO.out
          rw [e] at this
          exact pts_of_own this

end Go.Proofs.YtddjppkpgflbjaaDoor
