/- The document's own Match. -/
import Derived.Test.YtddjppkpgflbjaaDoorRfKM
import Derived.Test.YtddjppkpgflbjaaDoorRfB
import Derived.Test.YtddjppkpgflbjaaDoorRfH
import Derived.Test.YtddjppkpgflbjaaDoorVmG
import Derived.Deep.CutRange
import Derived.BigQuiet
import Derived.Deep.QuietTactic
namespace VM

theorem each_step {c : Co} {left : List Int} {N i r : Nat} {h x : List Nat} (hi : h[i]? = some r) (hN : i ≤ N) : each c left (N + 1 - i) i h x =
    if (look c left r h x).2.2 then ((look c left r h x).1, (look c left r h x).2.1, true, i + 1) else each c left (N + 1 - (i + 1)) (i + 1) (look c left r h x).1 (look c left r h x).2.1 := by
  rw [show N + 1 - i = (N + 1 - (i + 1)) + 1 by omega]
  conv => lhs; unfold each
  rw [hi]

theorem each_end {c : Co} {left : List Int} {f i : Nat} {h x : List Nat} (hi : h.length ≤ i) : each c left f i h x = (h, x, false, i) := by
  cases f with
  | zero => rfl
  | succ f =>
    unfold each
    rw [List.getElem?_eq_none hi]

end VM
namespace Go.Proofs.YtddjppkpgflbjaaDoor
open Go.RowKit Go.Shelf

/-- What is left to be looked at here. -/
def LeftE (c : VM.Co) (left : List Int) (N i : Nat) (h x : List Nat) (E : List Nat × List Nat × Bool × Nat) : Prop := E = VM.each c left (N + 1 - i) i h x

theorem LeftE.step {c : VM.Co} {left : List Int} {N i r : Nat} {h x : List Nat} {E : List Nat × List Nat × Bool × Nat} (hE : LeftE c left N i h x E) (hi : h[i]? = some r) (hN : i ≤ N) {h1 x1 : List Nat} (hl : VM.look c left r h x = (h1, x1, false)) : LeftE c left N (i + 1) h1 x1 E := by
  unfold LeftE at hE ⊢
  rw [hE, VM.each_step hi hN, hl]
  rfl

theorem LeftE.yes {c : VM.Co} {left : List Int} {N i r : Nat} {h x : List Nat} {E : List Nat × List Nat × Bool × Nat} (hE : LeftE c left N i h x E) (hi : h[i]? = some r) (hN : i ≤ N) (hl : VM.look c left r h x = (h, x, true)) : E = (h, x, true, i + 1) := by
  unfold LeftE at hE
  rw [hE, VM.each_step hi hN, hl]
  rfl

/-- What Take reads, but for the cells. -/
def SeeR (B : Nat) (w : World) (bc bm bh mp sp : Nat) (sv iv vh vx : Value) (h x : List Nat) (u : Value) (ss : List RS.Rg) (r : Nat) (q : Bool) (W : World) : Prop :=
  q = decide (r + 1 ∈ x) ∧ r ≤ 100000 ∧ Wk B W bc bm bh mp sp sv iv vh vx h x ∧ Below B w W ∧ RgAt B W u ss

/-- What Take reads. -/
def SeeS (B : Nat) (w : World) (bc bm bh mp sp : Nat) (sv iv vh vx : Value) (h x : List Nat) (xb a sb so : Nat) (u : Value) (pb po : Nat) (p : Int) (ss : List RS.Rg) (r : Nat) (q : Bool) (W : World) : Prop :=
  W.cell? ⟨bc, 0, none⟩ = some sv ∧ W.cell? ⟨xb, 1, none⟩ = some (.int .i64 a) ∧ W.cell? ⟨sb, so + a, none⟩ = some u ∧ W.cell? ⟨pb, po, none⟩ = some (.int .i64 p) ∧
    (Instr.lookup 58 (.map (some sp)) (.int .i64 ((r : Int) + 1)) false).run Tryd.prog W = .ok (.bool q) W ∧ SeeR B w bc bm bh mp sp sv iv vh vx h x u ss r q W

section
variable {B : Nat} {w : World} {bc bm bh mp sp : Nat} {sv iv vh vx : Value} {h x : List Nat} {xb a sb so : Nat} {u : Value} {pb po : Nat} {p : Int} {ss : List RS.Rg} {r : Nat} {q tk : Bool} {W W' : World}

theorem SeeS.mk' (hq : q = decide (r + 1 ∈ x)) (hr : r ≤ 100000)
    (K : Wk B W bc bm bh mp sp sv iv vh vx h x) (hB : Below B w W) (h1 : W.cell? ⟨xb, 1, none⟩ = some (.int .i64 a)) (h2 : W.cell? ⟨sb, so + a, none⟩ = some u) (h3 : W.cell? ⟨pb, po, none⟩ = some (.int .i64 p)) (h4 : RgAt B W u ss) :
    SeeS B w bc bm bh mp sp sv iv vh vx h x xb a sb so u pb po p ss r q W := by
  have hl := K.soon.look (i := r + 1) (by omega)
  rw [Int.natCast_add, show ((1 : Nat) : Int) = 1 from rfl, ← hq] at hl
  exact ⟨K.cells.1, h1, h2, h3, hl, hq, hr, K, hB, h4⟩

theorem SeeS.keep (hS : SeeS B w bc bm bh mp sp sv iv vh vx h x xb a sb so u pb po p ss r q W) (hb : Below W.heap.size W W') : SeeS B w bc bm bh mp sp sv iv vh vx h x xb a sb so u pb po p ss r q W' := by
  obtain ⟨h0, h1, h2, h3, h4, h5, h6, h7, h8, h9⟩ := hS
  exact SeeS.mk' h5 h6 (h7.below hb) (h8.trans (hb.mono h7.size)) ((hb.cell (by exact cell_lt h1)).trans h1) ((hb.cell (by exact cell_lt h2)).trans h2) ((hb.cell (by exact cell_lt h3)).trans h3) (h9.below (hb.mono h7.size) _ (Nat.le_refl _))

theorem see_has (hT : RS.has ss p = tk) (hlen : ss.length ≤ 1000000) (hS : SeeS B w bc bm bh mp sp sv iv vh vx h x xb a sb so u pb po p ss r q W) :
    Calls Tryd.prog 24 #[u, .int .i64 p] W fun e W' => e = .returned (.bool tk) ∧ Below W.heap.size W W' := by
  rw [← hT]
  obtain ⟨h0, h1, h2, h3, h4, h5, h6, h7, h8, h9⟩ := hS
  exact rhas_any u ss p hlen W (h9.below (Below.refl _ _) _ h7.size)

end

set_option maxHeartbeats 1000000 in
set_option maxRecDepth 100000 in
theorem refMatch_right (sv iv lv : Value) (c : VM.Co) (l : List Int) (w : World) (F : Fit w.heap.size w sv iv lv c l) :
    Calls Tryd.prog 7 #[.agg #[sv, iv], lv] w fun e w' => e = .returned (.tuple #[.bool (VM.run c l [0]).1, .int .i64 ((VM.run c l [0]).2 : Nat), .int .i64 0]) ∧ Below w.heap.size w w' := by
  have em : ∀ args w, (callFunc 23 args).run Tryd.prog w = .ok (.enter 23 args) w := enters_of Tryd.func23 (by kernel_rfl) rfl
  have hmm := @run_makeMap Tryd.prog
  have hlen := F.lens.1
  have hll := F.lens.2.2.1
  have hlen1 := (VM.right_parts F.right).1
  have HF : Hid (Fit w.heap.size w sv iv lv c l) := F
  have hb0 : Below w.heap.size w (w.alloc (.cells #[sv, iv] 25)) := (Below.refl _ w).alloc (Nat.le_refl _) _
  have HB0 : Hid (Below w.heap.size w (w.alloc (.cells #[sv, iv] 25))) := hb0
  have C1 := refRight_any sv iv c (w.alloc (.cells #[sv, iv] 25)) ⟨F.code.below hb0 _ hb0.size, F.lens.1, F.lens.2.1, F.lens.2.2.2⟩
  rw [F.right] at C1
  have hc0 : (w.alloc (.cells #[sv, iv] 25)).heap[w.heap.size]? = some (.cells #[sv, iv] 25 (0, 0)) := heap_alloc_new _ _
  have hk0 := cell_of_row _ _ 0 _ _ _ hc0
  have hk1 := cell_of_row _ _ 1 _ _ _ hc0
  simp only [List.getElem?_toArray, List.getElem?_cons_zero, List.getElem?_cons_succ] at hk0 hk1
  obtain ⟨ib, ioff, icap, hiv, hib, hic⟩ := F.ins
  obtain ⟨po, pc, hlv, hpc, hpp⟩ := F.pts
  obtain ⟨sao, scap, hsv, hsc, hss⟩ := F.code.1
  have HSS : Hid _ := hss
  have hsl := F.lens.2.1
  obtain ⟨SN, hSN⟩ : ∃ SN, SN = c.sets.length := ⟨_, rfl⟩
  have HSN : Hid (SN = c.sets.length) := hSN
  rw [← hSN] at hsv hsc hsl
  have HPP : Hid _ := hpp
  generalize hR : VM.run c l [0] = R
  have HR : Hid (R = VM.run c l [0]) := hR.symm
  obtain ⟨N, hN⟩ : ∃ N, N = c.ins.length := ⟨_, rfl⟩
  obtain ⟨L, hL⟩ : ∃ L, L = l.length := ⟨_, rfl⟩
  have HN : Hid (N = c.ins.length) := hN
  have HL : Hid (L = l.length) := hL
  rw [← hN] at hiv hlen hlen1
  rw [← hL] at hlv hpc hll
  have HIC : Hid (∀ W, Below w.heap.size w W → ∀ i, i < N → W.cell? ⟨ib, ioff + i * 3, none⟩ = some (.int .i64 (VM.at_ c i).op) ∧ W.cell? ⟨ib, ioff + i * 3 + 1, none⟩ = some (.int .i64 (VM.at_ c i).a) ∧ W.cell? ⟨ib, ioff + i * 3 + 2, none⟩ = some (.int .i64 (VM.at_ c i).b)) := fun W hW i hi => by
    obtain ⟨h1, h2, h3⟩ := hic i (by rw [← hN]; exact hi)
    exact ⟨(hW.cell (by exact hib)).trans h1, (hW.cell (by exact hib)).trans h2, (hW.cell (by exact hib)).trans h3⟩
  have HRI : Hid (VM.right c = true) := F.right
  clear F hb0 hpp hR hN hL hic hss hSN
  subst hlv hiv hsv
  generalize hW0 : w.alloc (.cells #[.slice sao SN scap, .slice (some ⟨ib, ioff, none⟩) N icap] 25) = W0 at *
  go_enter Tryd.func7, Tryd.ntmps7
  go_wp2_with fail
  refine C1.mono ?_
  rintro e w1 ⟨rfl, hb1⟩
  have hsz0 : W0.heap.size = w.heap.size + 1 := by rw [← hW0]; simp
  have hcC : w1.heap[w.heap.size]? = some (.cells #[.slice sao SN scap, .slice (some ⟨ib, ioff, none⟩) N icap] 25 (0, 0)) := (hb1.block _ (by omega)).trans hc0
  have HB1 : Hid (Below w.heap.size w w1) := HB0.out.trans (hb1.mono (by omega))
  have hw1 : w.heap.size < w1.heap.size := by have := hb1.size; omega
  clear C1 hb1 hc0 hk0 hk1
  have HP0 : Hid (Pt w.heap.size ((w1.alloc (.cells #[.int .i64 0] 3)).alloc (.cells #[.slice (some ⟨w1.heap.size, 0, none⟩) 1 1] 29)) w.heap.size (w1.heap.size + 1) (.slice sao SN scap) (.slice (some ⟨ib, ioff, none⟩) N icap) (.slice (some ⟨w1.heap.size, 0, none⟩) 1 1) [0] ∧
      Below w.heap.size w ((w1.alloc (.cells #[.int .i64 0] 3)).alloc (.cells #[.slice (some ⟨w1.heap.size, 0, none⟩) 1 1] 29))) := by
    have b1 : But (fun _ => False) w1 ((w1.alloc (.cells #[.int .i64 0] 3)).alloc (.cells #[.slice (some ⟨w1.heap.size, 0, none⟩) 1 1] 29)) := ((But.refl _ w1).alloc _).alloc _
    have b2 : But (fun _ => False) (w1.alloc (.cells #[.int .i64 0] 3)) ((w1.alloc (.cells #[.int .i64 0] 3)).alloc (.cells #[.slice (some ⟨w1.heap.size, 0, none⟩) 1 1] 29)) := (But.refl _ _).alloc _
    refine ⟨⟨(b1.block _ (lt_of_block hcC) id).trans hcC, ?_, own_but (own_one w1 0 _ (by omega)) b2 (fun _ _ => id), by omega⟩, (HB1.out.alloc (by omega) _).alloc (by simp; omega) _⟩
    have := heap_alloc_new (w1.alloc (.cells #[.int .i64 0] 3)) (.cells #[.slice (some ⟨w1.heap.size, 0, none⟩) 1 1] 29)
    simpa using this
  clear hcC HB1
  go_wp2_with fail
  generalize (w1.alloc (.cells #[.int .i64 0] 3)).alloc (.cells #[.slice (some ⟨w1.heap.size, 0, none⟩) 1 1] 29) = W2 at *
  generalize hbh : w1.heap.size + 1 = bh at *
  go_loopw [7, 9] (fun u v wr => ∃ (k n : Nat) (h : List Nat) (vh : Value), u = .int .i64 n ∧ v = .int .i64 k ∧ k ≤ L + 1 ∧ n ≤ k * 100000 ∧ Pt w.heap.size wr w.heap.size bh (.slice sao SN scap) (.slice (some ⟨ib, ioff, none⟩) N icap) vh h ∧ VM.Met N h ∧ VM.Rest c l k h n false R ∧ Below w.heap.size w wr) (fun _ v _ => L + 1 - (intOf v).toNat)
  case atStart => exact ⟨0, 0, [0], _, rfl, rfl, by omega, by omega, HP0.out.1, VM.met_one (by omega), VM.rest_start c l R HR.out, HP0.out.2⟩
  case round =>
    obtain ⟨k, n, h, vh, rfl, rfl, hk, hn, P, hmet, hrest, hbw⟩ := hrel
    obtain ⟨ao, cp, rfl, hcs⟩ := own_nums P.order
    obtain ⟨k0, k1, k2⟩ := P.cells
    have HP : Hid (Pt w.heap.size wr w.heap.size bh (.slice sao SN scap) (.slice (some ⟨ib, ioff, none⟩) N icap) (.slice ao h.length cp) h) := P
    have HM : Hid (VM.Met N h) := hmet
    have HRe : Hid (VM.Rest c l k h n false R) := hrest
    have HBW : Hid (Below w.heap.size w wr) := hbw
    have hhl := hmet.length
    have hbw0 := hbw.size
    clear P hmet hrest hbw
    by_cases hh0 : h.length = 0
    · have HE : Hid (R = (false, n)) := VM.rest_stop HRe.out (.inr (List.eq_nil_of_length_eq_zero hh0))
      rw [hh0] at k2
      go_wp2_with fail
      go_ret3
      rw [HE.out]
      exact ⟨rfl, HBW.out⟩
    · have hk2 : k ≤ L := by
        have := VM.rest_le HRe.out (fun e => hh0 (by rw [e]; rfl))
        rw [HL.out]; exact this
      have HH0 : Hid (h ≠ []) := fun e => hh0 (by rw [e]; rfl)
      obtain ⟨g, rfl, hc0⟩ := hcs 0 (by omega)
      obtain ⟨q, hq⟩ : ∃ q, q = h[0]'(by omega) := ⟨_, rfl⟩
      have HQ : Hid (h.take 1 = [q]) := by
        show _ = _
        rw [hq]
        cases h with
        | nil => exact absurd rfl hh0
        | cons a t => rfl
      have hqN : q < N := by rw [hq]; exact HM.out.2 _ (List.getElem_mem _)
      rw [← hq] at hc0
      clear hq
      obtain ⟨w3, hu3, hp3, hb3⟩ := HP.out.start (i := q) (by omega)
      have HP3 : Hid _ := hp3
      have HB3 : Hid _ := HBW.out.trans hb3
      have m4 := hp3.pt.cells.2.2
      have m2 : (wr.alloc (.map #[] 0)).cell? ⟨bh, 0, none⟩ = some (.slice (some ⟨g, 0, none⟩) h.length cp) := (World.cell?_of_block (w := wr) (a := ⟨bh, 0, none⟩) (heap_alloc_old _ _ (lt_of_block HP.out.cH))).trans k2
      have m3 : (wr.alloc (.map #[] 0)).cell? ⟨g, 0, none⟩ = some (.int .i64 (q : Nat)) := (World.cell?_of_block (w := wr) (a := ⟨g, 0, none⟩) (heap_alloc_old _ _ (cell_lt hc0))).trans hc0
      obtain ⟨H, hH⟩ : ∃ H, H = h.length := ⟨_, rfl⟩
      have HH : Hid (H = h.length) := hH
      rw [← hH] at k2 hh0 hhl m2 m4
      clear hH hp3 hb3 hcs k0 k1 hc0
      go_wp2_with fail
      clear m2 m3 m4 hu3 k2
      generalize w3.alloc (.cells #[.map (some wr.heap.size)] 58) = W4 at *
      generalize w3.heap.size = bm at *
      generalize decide (0 < H) = d25
      generalize hmp : wr.heap.size = mp at *
      go_loopw [12, 35] (fun _ v W => ∃ j : Nat, v = .int .i64 j ∧ j ≤ H ∧ Pm w.heap.size W w.heap.size bm bh mp (.slice sao SN scap) (.slice (some ⟨ib, ioff, none⟩) N icap) (.slice (some ⟨g, 0, none⟩) h.length cp) h (j + 1) (h.take 1 ++ h.take j) ∧ Below w.heap.size w W) (fun _ v _ => H - (intOf v).toNat)
      case atStart => exact ⟨0, rfl, Nat.zero_le _, by rw [HQ.out]; exact HP3.out, HB3.out⟩
      case round =>
        obtain ⟨j, rfl, hj, pm, hb5⟩ := hrel
        have HB5 : Hid (Below w.heap.size w wr) := hb5
        have HP5 : Hid (Pm w.heap.size wr w.heap.size bm bh mp (.slice sao SN scap) (.slice (some ⟨ib, ioff, none⟩) N icap) (.slice (some ⟨g, 0, none⟩) h.length cp) h (j + 1) (h.take 1 ++ h.take j)) := pm
        by_cases hjl : j < H
        · have hjh : j < h.length := by rw [← HH.out]; exact hjl
          obtain ⟨ao, cp', e5, hcs⟩ := own_nums pm.pt.order
          cases e5
          obtain ⟨g', e6, hc⟩ := hcs j hjh
          cases e6
          obtain ⟨r, hr⟩ : ∃ r, r = h[j] := ⟨_, rfl⟩
          have HT : Hid (h.take (j + 1) = h.take j ++ [r]) := by show _ = _; rw [hr]; exact (List.take_append_getElem hjh).symm
          have hrN : r < N := by rw [hr]; exact HM.out.2 _ (List.getElem_mem _)
          rw [← hr] at hc
          have km := cell_of_row _ _ 0 _ _ _ pm.cM
          obtain ⟨w5, hu5, pm5, hb6⟩ := pm.put (i := r) (by omega) (by omega)
          have HP6 : Hid _ := pm5
          have HB6 : Hid (Below w.heap.size w w5) := hb5.trans hb6
          clear hr pm pm5 hb5 hb6 hcs hjh
          have hjz : (j : Int) < (H : Int) := by omega
          go_wp2_with fail
          case roundEnd =>
            refine ⟨⟨j + 1, by go_num, by omega, ?_, HB6.out⟩, by simp [intOf]; omega⟩
            rw [HT.out, ← List.append_assoc]
            exact HP6.out
        · obtain rfl : j = H := by omega
          clear hj
          have hK := pm.walk (by rw [← HH.out]; omega) (fun i => by
            rw [HH.out, List.take_length, List.mem_append]
            exact ⟨fun h => h.elim (fun h => List.mem_of_mem_take h) id, .inr⟩)
          have HK : Hid _ := hK
          have HB6 : Hid _ := hb5.alloc pm.pt.size (.map #[] 0)
          have k4 := pm.pt.cells.2.2
          have HRS := VM.rest_step HRe.out HH0.out
          rw [← HN.out] at HRS
          generalize hE : VM.each c (l.drop k) (N + 1) 0 h [] = E at HRS
          have HE0 : Hid (LeftE c (l.drop k) N 0 h [] E) := hE.symm
          have HRS' : Hid _ := HRS
          clear pm hK hb5 HRS hE
          go_wp2_with fail
          clear k4
          generalize wr.alloc (.map #[] 0) = W7 at *
          generalize wr.heap.size = sp at *
          go_loopw [7, 13, 16] (fun u nx jv W => ∃ (i : Nat) (h' x' : List Nat) (vh' : Value), u = .int .i64 ((n + i : Nat) : Int) ∧ jv = .int .i64 i ∧ i ≤ h'.length ∧ VM.Met N h' ∧ VM.Met N x' ∧ Wk w.heap.size W w.heap.size bm bh mp sp (.slice sao SN scap) (.slice (some ⟨ib, ioff, none⟩) N icap) vh' nx h' x' ∧ Below w.heap.size w W ∧ LeftE c (l.drop k) N i h' x' E) (fun _ _ v _ => N + 1 - (intOf v).toNat)
          case atStart => exact ⟨0, h, [], _, rfl, rfl, Nat.zero_le _, HM.out, VM.met_nil _, HK.out, HB6.out, HE0.out⟩
          case round =>
            obtain ⟨i, h', x', vh', rfl, rfl, hi, hm1, hm2, hK, hb8, hle⟩ := hrel
            have HB8 : Hid (Below w.heap.size w wr) := hb8
            have HME : Hid (VM.Met N h' ∧ VM.Met N x') := ⟨hm1, hm2⟩
            have HLE : Hid (LeftE c (l.drop k) N i h' x' E) := hle
            have hl1 := hm1.length
            have hl2 := hm2.length
            obtain ⟨ao, cp', rfl, hcs⟩ := own_nums hK.met.order
            obtain ⟨k0, k1, k2, kf⟩ := hK.cells
            have HKK : Hid (Wk w.heap.size wr w.heap.size bm bh mp sp (.slice sao SN scap) (.slice (some ⟨ib, ioff, none⟩) N icap) (.slice ao h'.length cp') u13 h' x') := hK
            by_cases hil : i < h'.length
            · obtain ⟨g', rfl, hc⟩ := hcs i hil
              obtain ⟨r, hr⟩ : ∃ r, r = h'[i] := ⟨_, rfl⟩
              have HR1 : Hid (h'[i]? = some r) := by show _ = _; rw [hr]; exact List.getElem?_eq_getElem hil
              have hrN : r < N := by rw [hr]; exact hm1.2 _ (List.getElem_mem _)
              rw [← hr] at hc
              obtain ⟨i0, i1, i2⟩ := HIC.out wr hb8 r hrN
              have hb9 : Below wr.heap.size wr (wr.alloc (.cells #[.int .i64 (VM.at_ c r).op, .int .i64 (VM.at_ c r).a, .int .i64 (VM.at_ c r).b] 50)) := (Below.refl _ wr).alloc (Nat.le_refl _) _
              have hK9 := hK.below hb9
              have hbb := hK.size
              have HB9 : Hid _ := hb8.trans (hb9.mono hbb)
              have hrt := VM.right_at HRI.out (i := r) (by rw [← HN.out]; exact hrN)
              rw [← HN.out] at hrt
              have hx2 : ∀ o' a' b', (wr.alloc (.cells #[.int .i64 o', .int .i64 a', .int .i64 b'] 50)).heap[wr.heap.size]? = some (.cells #[.int .i64 o', .int .i64 a', .int .i64 b'] 50 (0, 0)) := fun _ _ _ => heap_alloc_new _ _
              obtain ⟨H', hH'⟩ : ∃ H', H' = h'.length := ⟨_, rfl⟩
              have HH' : Hid (H' = h'.length) := hH'
              rw [← hH'] at k2 hil hl1
              clear hr hm1 hm2 hK hb8 hle hcs hi hH' hb9
              have hiz : (i : Int) < (H' : Int) := by omega
              have hrz : (r : Int) < (N : Int) := by omega
              by_cases o5 : (VM.at_ c r).op = 5
              · have hl : VM.look c (l.drop k) r h' x' = (h', x', true) := by unfold VM.look; simp [o5]
                have HE5 : Hid (R = (true, n + (i + 1))) := by
                  have e := HLE.out.yes HR1.out (by omega) hl
                  have := HRS'.out
                  rw [e] at this
                  exact VM.rest_stop this (.inl rfl)
                rw [o5] at i0 HB9
                clear hl hK9
                go_wp2_with fail
                go_ret3
                rw [HE5.out]
                exact ⟨by simp; omega, HB9.out⟩
              · by_cases o3 : (VM.at_ c r).op = 3
                · have ha := VM.right_a HRI.out (by rw [← HN.out]; exact hrN) (.inr o3)
                  rw [← HN.out] at ha
                  obtain ⟨a, hA⟩ : ∃ a : Nat, (VM.at_ c r).a = a := ⟨(VM.at_ c r).a.toNat, by omega⟩
                  have hl : VM.look c (l.drop k) r h' x' = (VM.meet h' a, x', false) := by unfold VM.look; simp [o3, hA]
                  have HLN := HLE.out.step HR1.out (by omega) hl
                  have HLN' : Hid _ := HLN
                  have HM1 : Hid (VM.Met N (VM.meet h' a)) := HME.out.1.meet (by omega)
                  have hml : i + 1 ≤ (VM.meet h' a).length := by have := (VM.meet_prefix h' a).length_le; rw [← HH'.out] at this; omega
                  have M := hK9.meet (i := a) (by omega) (by rw [← HH'.out]; omega)
                  rw [o3] at i0 HB9 M
                  rw [hA] at i1 HB9 M
                  clear hl hK9 o5 o3 hA ha HLN hx2
                  generalize (VM.at_ c r).b = b at *
                  go_wp2_with fail
                  refine M.mono ?_
                  rintro e w2 ⟨rfl, v', hK2, hb2, -⟩
                  have HK2 : Hid _ := hK2
                  have HB2 : Hid _ := HB9.out.trans hb2
                  clear M hK2 hb2
                  go_wp2_with fail
                  case roundEnd => exact ⟨⟨i + 1, _, x', _, by go_num, by go_num, hml, HM1.out, HME.out.2, HK2.out, HB2.out, HLN'.out⟩, by simp [intOf]; omega⟩
                · by_cases o2 : (VM.at_ c r).op = 2
                  · have ha := VM.right_a HRI.out (by rw [← HN.out]; exact hrN) (.inl o2)
                    have hb := VM.right_b HRI.out (by rw [← HN.out]; exact hrN) o2
                    rw [← HN.out] at ha hb
                    obtain ⟨a, hA⟩ : ∃ a : Nat, (VM.at_ c r).a = a := ⟨(VM.at_ c r).a.toNat, by omega⟩
                    obtain ⟨b, hB⟩ : ∃ b : Nat, (VM.at_ c r).b = b := ⟨(VM.at_ c r).b.toNat, by omega⟩
                    have hl : VM.look c (l.drop k) r h' x' = (VM.meet (VM.meet h' a) b, x', false) := by unfold VM.look; simp [o2, hA, hB]
                    have HLN : Hid _ := HLE.out.step HR1.out (by omega) hl
                    have HM1 : Hid (VM.Met N (VM.meet h' a)) := HME.out.1.meet (by omega)
                    have HM2 : Hid (VM.Met N (VM.meet (VM.meet h' a) b)) := HM1.out.meet (by omega)
                    have hml : i + 1 ≤ (VM.meet (VM.meet h' a) b).length := by have := ((VM.meet_prefix h' a).trans (VM.meet_prefix (VM.meet h' a) b)).length_le; rw [← HH'.out] at this; omega
                    have M := hK9.meet (i := a) (by omega) (by rw [← HH'.out]; omega)
                    have hbN : b < N := by omega
                    have hx3 := hx2 2 a b
                    rw [o2] at i0 HB9 M
                    rw [hA] at i1 HB9 M
                    rw [hB] at i2 HB9 M
                    clear hl hK9 o5 o3 o2 hA ha hB hb hx2
                    go_wp2_with fail
                    refine M.mono ?_
                    rintro e w2 ⟨rfl, v', hK2, hb2, hkeep⟩
                    have hd0 : w2.cell? ⟨wr.heap.size, 2, none⟩ = some (.int .i64 (b : Int)) := cell_of_row w2 wr.heap.size 2 _ _ _ (hkeep _ _ hx3)
                    have M2 := hK2.meet (i := b) (by omega) (by have := HM1.out.length; omega)
                    have HB2 : Hid _ := HB9.out.trans hb2
                    clear M hK2 hb2 hkeep hx3
                    go_wp2_with fail
                    refine M2.mono ?_
                    rintro e w4 ⟨rfl, v2, hK2, hb2, -⟩
                    have HK2 : Hid _ := hK2
                    have HB4 : Hid _ := HB2.out.trans hb2
                    clear M2 hK2 hb2 hd0
                    go_wp2_with fail
                    case roundEnd => exact ⟨⟨i + 1, _, x', _, by go_num, by go_num, hml, HM2.out, HME.out.2, HK2.out, HB4.out, HLN.out⟩, by simp [intOf]; omega⟩
                  · by_cases o4 : (VM.at_ c r).op = 4
                    · have hnx := VM.right_next HRI.out (by rw [← HN.out]; exact hrN) (.inr o4)
                      rw [← HN.out] at hnx
                      have hdl : (l.drop k).length = L - k := by rw [List.length_drop, ← HL.out]
                      rw [o4] at i0 HB9
                      clear o5 o3 o2 hx2
                      by_cases hkL : k < L
                      · have hl : VM.look c (l.drop k) r h' x' = (h', x', false) := by unfold VM.look; simp [o4, hdl]; omega
                        have HLN : Hid _ := HLE.out.step HR1.out (by omega) hl
                        have HK2 : Hid _ := hK9
                        have hml : i + 1 ≤ h'.length := by rw [← HH'.out]; omega
                        rw [o4] at HK2
                        clear hl hK9 o4 hdl
                        generalize (VM.at_ c r).a = a at *
                        generalize (VM.at_ c r).b = b at *
                        have hkz : (k : Int) < (L : Int) := by omega
                        go_wp2_with fail
                        case roundEnd => exact ⟨⟨i + 1, h', x', _, by go_num, by go_num, hml, HME.out.1, HME.out.2, HK2.out, HB9.out, HLN.out⟩, by simp [intOf]; omega⟩
                      · have hl : VM.look c (l.drop k) r h' x' = (VM.meet h' (r + 1), x', false) := by unfold VM.look; simp [o4, hdl]; omega
                        have HLN : Hid _ := HLE.out.step HR1.out (by omega) hl
                        have HM1 : Hid (VM.Met N (VM.meet h' (r + 1))) := HME.out.1.meet (by omega)
                        have hml : i + 1 ≤ (VM.meet h' (r + 1)).length := by have := (VM.meet_prefix h' (r + 1)).length_le; rw [← HH'.out] at this; omega
                        have M := hK9.meet (i := r + 1) (by omega) (by rw [← HH'.out]; omega)
                        rw [Int.natCast_add, show ((1 : Nat) : Int) = 1 from rfl] at M
                        rw [o4] at M
                        clear hl hK9 o4 hdl
                        generalize (VM.at_ c r).a = a at *
                        generalize (VM.at_ c r).b = b at *
                        have hkz : (L : Int) ≤ (k : Int) := by omega
                        go_wp2_with fail
                        refine M.mono ?_
                        rintro e w2 ⟨rfl, v', hK2, hb2, -⟩
                        have HK2 : Hid _ := hK2
                        have HB2 : Hid _ := HB9.out.trans hb2
                        clear M hK2 hb2
                        go_wp2_with fail
                        case roundEnd => exact ⟨⟨i + 1, _, x', _, by go_num, by go_num, hml, HM1.out, HME.out.2, HK2.out, HB2.out, HLN.out⟩, by simp [intOf]; omega⟩
                    · have o1 : (VM.at_ c r).op = 1 := by
                        unfold VM.rightIn at hrt
                        simp only [o2, o3, o4, o5, if_false] at hrt
                        split at hrt
                        · assumption
                        · cases hrt
                      have ha := VM.right_s HRI.out (by rw [← HN.out]; exact hrN) o1
                      have hnx := VM.right_next HRI.out (by rw [← HN.out]; exact hrN) (.inl o1)
                      rw [← HN.out] at hnx
                      rw [← HSN.out] at ha
                      obtain ⟨a, hA⟩ : ∃ a : Nat, (VM.at_ c r).a = a := ⟨(VM.at_ c r).a.toNat, by omega⟩
                      have haN : a < SN := by omega
                      by_cases hkL : k < L
                      · have hkl : k < l.length := by rw [← HL.out]; exact hkL
                        have hal : a < c.sets.length := by rw [← HSN.out]; exact haN
                        obtain ⟨pb, poff, rfl, hpb, hpc2⟩ := HPP.out (fun e => by rw [e] at hkl; simp at hkl)
                        obtain ⟨sb, soff, rfl, hsb, hsc2⟩ := HSS.out (fun e => by rw [e] at hal; simp at hal)
                        obtain ⟨u, hu1, hu2⟩ := hsc2 a hal
                        have hp1 := hpc2 k hkl
                        have hsslen := HF.out.lens.2.2.2 _ (List.getElem_mem hal)
                        obtain ⟨p, hp⟩ : ∃ p, p = l[k] := ⟨_, rfl⟩
                        obtain ⟨ss, hss⟩ : ∃ ss, ss = c.sets[a] := ⟨_, rfl⟩
                        obtain ⟨tk, htk⟩ : ∃ tk, RS.has ss p = tk := ⟨_, rfl⟩
                        have hl : VM.look c (l.drop k) r h' x' = (h', if tk = true then VM.meet x' (r + 1) else x', false) := by
                          rw [List.drop_eq_getElem_cons hkl, ← hp]
                          have e : VM.takes c (VM.at_ c r) (p :: l.drop (k + 1)) = tk := by
                            show RS.has (c.sets.getD (VM.at_ c r).a.toNat []) p = tk
                            rw [hA, Int.toNat_natCast, ← htk, hss]
                            simp [hal]
                          unfold VM.look
                          rw [if_pos o1, e]
                        have HLN : Hid _ := HLE.out.step HR1.out (by omega) hl
                        have HTK : Hid (RS.has ss p = tk) := htk
                        have hml : i + 1 ≤ h'.length := by rw [← HH'.out]; omega
                        rw [← hp] at hp1
                        rw [← hss] at hu2 hsslen
                        rw [o1] at i0 HB9 hK9
                        rw [hA] at i1 HB9 hK9
                        clear hl hss hp htk o5 o4 o3 o2 o1 hA ha hpc2 hsc2 hkl hal
                        have hx3 := cell_of_row _ wr.heap.size 1 _ _ _ (hx2 1 a (VM.at_ c r).b)
                        simp only [List.getElem?_toArray, List.getElem?_cons_zero, List.getElem?_cons_succ] at hx3
                        generalize (VM.at_ c r).b = b at *
                        obtain ⟨q', hq'⟩ : ∃ q', q' = decide (r + 1 ∈ x') := ⟨_, rfl⟩
                        have hS := SeeS.mk' (w := w) (r := r) hq' (by omega) hK9 HB9.out hx3 ((HB9.out.cell (by exact hsb)).trans hu1) ((HB9.out.cell (by exact hpb)).trans hp1) (hu2.below HB9.out _ (Nat.le_refl _))
                        have HQ' : Hid (q' = decide (r + 1 ∈ x')) := hq'
                        have HS9 : Hid _ := hS.keep (below_drewN (Below.refl _ _) 1)
                        clear hx2 hx3 hK9 hu1 hu2 hp1 hS hq'
                        have hd : decide ((k : Int) < (L : Int)) = true := by simp; omega
                        have hkz : (k : Int) < (L : Int) := by omega
                        have haz : (a : Int) < (SN : Int) := by omega
                        have ha0 : (0 : Int) ≤ (a : Int) := by omega
                        have hk0 : (0 : Int) ≤ (k : Int) := by omega
                        have hwr : IntKind.i64.wrap ((r : Int) + 1) = (r : Int) + 1 := wrap_little (by omega) (by omega)
                        go_wp2_with fail
                        generalize wr.alloc (.cells #[.int .i64 1, .int .i64 (a : Int), .int .i64 b] 50) = W9 at *
                        generalize wr.heap.size = xb at *
                        have hS9 := HS9.out
                        cases tk with
                        | true =>
                          cases q' with
                          | true =>
                            go_region_held3 (fun W => W.cell? ⟨w.heap.size, 0, none⟩ = some (.slice (some ⟨sb, soff, none⟩) SN scap) ∧ W.cell? ⟨xb, 1, none⟩ = some (.int .i64 a) ∧ W.cell? ⟨sb, soff + a, none⟩ = some u ∧ W.cell? ⟨pb, poff + k, none⟩ = some (.int .i64 p) ∧
                                (Instr.lookup 58 (.map (some sp)) (.int .i64 ((r : Int) + 1)) false).run Tryd.prog W = .ok (.bool true) W ∧ SeeR w.heap.size w w.heap.size bm bh mp sp (.slice (some ⟨sb, soff, none⟩) SN scap) (.slice (some ⟨ib, ioff, none⟩) N icap) (.slice (some ⟨g', 0, none⟩) h'.length cp') u13 h' x' u ss r true W)
                              (first | exact hS9 | assumption | exact SeeS.keep (B := w.heap.size) (w := w) (bc := w.heap.size) (bm := bm) (bh := bh) (mp := mp) (sp := sp) (sv := .slice (some ⟨sb, soff, none⟩) SN scap) (iv := .slice (some ⟨ib, ioff, none⟩) N icap) (vh := .slice (some ⟨g', 0, none⟩) h'.length cp') (vx := u13) (h := h') (x := x') (xb := xb) (a := a) (sb := sb) (so := soff) (u := u) (pb := pb) (po := poff + k) (p := p) (ss := ss) (r := r) (q := true) (by assumption) (by assumption))
                              (first | (go_at_call 24; refine (see_has (B := w.heap.size) (w := w) (bc := w.heap.size) (bm := bm) (bh := bh) (mp := mp) (sp := sp) (sv := .slice (some ⟨sb, soff, none⟩) SN scap) (iv := .slice (some ⟨ib, ioff, none⟩) N icap) (vh := .slice (some ⟨g', 0, none⟩) h'.length cp') (vx := u13) (h := h') (x := x') (xb := xb) (a := a) (sb := sb) (so := soff) (u := u) (pb := pb) (po := poff + k) (p := p) (ss := ss) (r := r) (q := true) HTK.out hsslen ?_).mono ?_; assumption; rintro e w9 ⟨rfl, hb9⟩))
                            have hS10 := SeeS.keep hS9 hb9
                            obtain ⟨-, -, -, -, -, -, -, K9, B9, -⟩ := hS10
                            have HK10 : Hid _ := K9
                            have HB10 : Hid _ := B9
                            have HEQ : Hid (VM.meet x' (r + 1) = x') := by
                              show _ = _
                              unfold VM.meet
                              rw [if_pos (of_decide_eq_true HQ'.out.symm)]
                            clear K9 B9 hb9 hS9
                            go_wp2_with fail
                            case roundEnd => exact ⟨⟨i + 1, h', x', _, by go_num, by go_num, hml, HME.out.1, HME.out.2, HK10.out, HB10.out, by have := HLN.out; rwa [HEQ.out] at this⟩, by simp [intOf]; omega⟩
                          | false =>
                            go_region_held3 (fun W => W.cell? ⟨w.heap.size, 0, none⟩ = some (.slice (some ⟨sb, soff, none⟩) SN scap) ∧ W.cell? ⟨xb, 1, none⟩ = some (.int .i64 a) ∧ W.cell? ⟨sb, soff + a, none⟩ = some u ∧ W.cell? ⟨pb, poff + k, none⟩ = some (.int .i64 p) ∧
                                (Instr.lookup 58 (.map (some sp)) (.int .i64 ((r : Int) + 1)) false).run Tryd.prog W = .ok (.bool false) W ∧ SeeR w.heap.size w w.heap.size bm bh mp sp (.slice (some ⟨sb, soff, none⟩) SN scap) (.slice (some ⟨ib, ioff, none⟩) N icap) (.slice (some ⟨g', 0, none⟩) h'.length cp') u13 h' x' u ss r false W)
                              (first | exact hS9 | assumption | exact SeeS.keep (B := w.heap.size) (w := w) (bc := w.heap.size) (bm := bm) (bh := bh) (mp := mp) (sp := sp) (sv := .slice (some ⟨sb, soff, none⟩) SN scap) (iv := .slice (some ⟨ib, ioff, none⟩) N icap) (vh := .slice (some ⟨g', 0, none⟩) h'.length cp') (vx := u13) (h := h') (x := x') (xb := xb) (a := a) (sb := sb) (so := soff) (u := u) (pb := pb) (po := poff + k) (p := p) (ss := ss) (r := r) (q := false) (by assumption) (by assumption))
                              (first | (go_at_call 24; refine (see_has (B := w.heap.size) (w := w) (bc := w.heap.size) (bm := bm) (bh := bh) (mp := mp) (sp := sp) (sv := .slice (some ⟨sb, soff, none⟩) SN scap) (iv := .slice (some ⟨ib, ioff, none⟩) N icap) (vh := .slice (some ⟨g', 0, none⟩) h'.length cp') (vx := u13) (h := h') (x := x') (xb := xb) (a := a) (sb := sb) (so := soff) (u := u) (pb := pb) (po := poff + k) (p := p) (ss := ss) (r := r) (q := false) HTK.out hsslen ?_).mono ?_; assumption; rintro e w9 ⟨rfl, hb9⟩))
                            have hS10 := SeeS.keep hS9 hb9
                            obtain ⟨-, -, -, -, -, -, -, K9, B9, -⟩ := hS10
                            obtain ⟨w10, v', w11, hu, hr, -, hK11, hb11⟩ := K9.take (i := r + 1) (by omega) (by omega) (of_decide_eq_false HQ'.out.symm)
                            rw [Int.natCast_add, show ((1 : Nat) : Int) = 1 from rfl] at hu hr
                            have HR9 : Hid _ := hr
                            have HK10 : Hid _ := hK11
                            have HB10 : Hid _ := B9.trans hb11
                            have HMX : Hid (VM.Met N (VM.meet x' (r + 1))) := HME.out.2.meet (by omega)
                            clear K9 B9 hb9 hS9 hr hK11 hb11
                            go_wp2_with (at_builtin; refine Lib.wpList_append_run _ rfl _ _ _ _ rfl _ _ rfl rfl _ _ HR9.out ?_)
                            go_wp2_with fail
                            case roundEnd => exact ⟨⟨i + 1, h', _, _, by go_num, by go_num, hml, HME.out.1, HMX.out, HK10.out, HB10.out, HLN.out⟩, by simp [intOf]; omega⟩
                        | false =>
                          refine wp_region_held_drew (S := (fun W => W.cell? ⟨w.heap.size, 0, none⟩ = some (.slice (some ⟨sb, soff, none⟩) SN scap) ∧ W.cell? ⟨xb, 1, none⟩ = some (.int .i64 a) ∧ W.cell? ⟨sb, soff + a, none⟩ = some u ∧ W.cell? ⟨pb, poff + k, none⟩ = some (.int .i64 p) ∧ (Instr.lookup 58 (.map (some sp)) (.int .i64 ((r : Int) + 1)) false).run Tryd.prog W = .ok (.bool q') W ∧ SeeR w.heap.size w w.heap.size bm bh mp sp (.slice (some ⟨sb, soff, none⟩) SN scap) (.slice (some ⟨ib, ioff, none⟩) N icap) (.slice (some ⟨g', 0, none⟩) h'.length cp') u13 h' x' u ss r q' W)) (by kernel_rfl) hS9 (fun hHeld => ?_)
                          refine wpAnyH_take (i := 0) (oi := { dst := some 94, op := Op.move (Operand.tmp 9), type := 3, pos := "code.go:79", after := #[], guard := none }) (v := ?vv1) rfl (by kernel_rfl) (by kernel_rfl) (by kernel_rfl) (fun _ _ _ h => h) (Or.inl ⟨by rfl, ?hy1⟩) (by assumption) ?rest1
                          case hy1 => (intro w hSw; (try dsimp only at hSw); go_simp) <;> try with_reducible rfl
                          try simp only [Act.put, List.setIfInBounds_toArray, List.set_cons_zero, List.set_cons_succ]
                          refine wpAnyH_take (i := 1) (oi := { dst := some 95, op := Op.move (Operand.tmp 1), type := 29, pos := "code.go:79", after := #[], guard := none }) (v := ?vv2) rfl (by kernel_rfl) (by kernel_rfl) (by kernel_rfl) (fun _ _ _ h => h) (Or.inl ⟨by rfl, ?hy2⟩) (by assumption) ?rest2
                          case hy2 => (intro w hSw; (try dsimp only at hSw); go_simp) <;> try with_reducible rfl
                          try simp only [Act.put, List.setIfInBounds_toArray, List.set_cons_zero, List.set_cons_succ]
                          refine wpAnyH_take (i := 2) (oi := { dst := some 96, op := Op.call { callee := Callee.builtin Builtin.len, args := #[Operand.tmp 95], argTypes := #[29] }, type := 3, pos := "code.go:79", after := #[{ on := 1, ground := Ground.data }], guard := none }) (v := ?vv3) rfl (by kernel_rfl) (by kernel_rfl) (by kernel_rfl) (fun _ _ _ h => h) (Or.inl ⟨by rfl, ?hy3⟩) (by assumption) ?rest3
                          case hy3 => (intro w hSw; (try dsimp only at hSw); go_simp) <;> try with_reducible rfl
                          try simp only [Act.put, List.setIfInBounds_toArray, List.set_cons_zero, List.set_cons_succ]
                          refine wpAnyH_take (i := 3) (oi := { dst := some 97, op := Op.binOp BinOp.lss 3 (Operand.tmp 94) (Operand.tmp 96) 3, type := 4, pos := "code.go:79", after := #[{ on := 0, ground := Ground.data }, { on := 2, ground := Ground.data }], guard := none }) (v := ?vv4) rfl (by kernel_rfl) (by kernel_rfl) (by kernel_rfl) (fun _ _ _ h => h) (Or.inl ⟨by rfl, ?hy4⟩) (by assumption) ?rest4
                          case hy4 => (intro w hSw; (try dsimp only at hSw); go_simp) <;> try with_reducible rfl
                          try simp only [Act.put, List.setIfInBounds_toArray, List.set_cons_zero, List.set_cons_succ]
                          refine wpAnyH_take (i := 4) (oi := { dst := some 98, op := Op.move (Operand.tmp 97), type := 4, pos := "code.go:79", after := #[{ on := 3, ground := Ground.data }], guard := none }) (v := ?vv5) rfl (by kernel_rfl) (by kernel_rfl) (by kernel_rfl) (fun _ _ _ h => h) (Or.inl ⟨by rfl, ?hy5⟩) (by assumption) ?rest5
                          case hy5 => (intro w hSw; (try dsimp only at hSw); go_simp) <;> try with_reducible rfl
                          try simp only [Act.put, List.setIfInBounds_toArray, List.set_cons_zero, List.set_cons_succ]
                          refine wpAnyH_take (i := 5) (oi := { dst := some 99, op := Op.fieldAddr 25 (Operand.tmp 2) 0, type := 0, pos := "code.go:79", after := #[{ on := 4, ground := Ground.guard }], guard := some (4, true) }) (v := ?vv6) rfl (by kernel_rfl) (by kernel_rfl) (by kernel_rfl) (fun _ _ _ h => h) (Or.inl ⟨by rfl, ?hy6⟩) (by assumption) ?rest6
                          case hy6 => (intro w hSw; (try dsimp only at hSw); go_simp) <;> try with_reducible rfl
                          try simp only [Act.put, List.setIfInBounds_toArray, List.set_cons_zero, List.set_cons_succ]
                          refine wpAnyH_take (i := 6) (oi := { dst := some 100, op := Op.load 22 (Operand.tmp 99), type := 22, pos := "code.go:79", after := #[{ on := 5, ground := Ground.data }, { on := 4, ground := Ground.guard }], guard := some (4, true) }) (v := ?vv7) rfl (by kernel_rfl) (by kernel_rfl) (by kernel_rfl) (fun _ _ _ h => h) (Or.inl ⟨by rfl, ?hy7⟩) (by assumption) ?rest7
                          case hy7 => (intro w hSw; (try dsimp only at hSw); go_simp) <;> try with_reducible rfl
                          try simp only [Act.put, List.setIfInBounds_toArray, List.set_cons_zero, List.set_cons_succ]
                          refine wpAnyH_take (i := 7) (oi := { dst := some 101, op := Op.fieldAddr 50 (Operand.tmp 18) 1, type := 0, pos := "code.go:79", after := #[{ on := 4, ground := Ground.guard }], guard := some (4, true) }) (v := ?vv8) rfl (by kernel_rfl) (by kernel_rfl) (by kernel_rfl) (fun _ _ _ h => h) (Or.inl ⟨by rfl, ?hy8⟩) (by assumption) ?rest8
                          case hy8 => (intro w hSw; (try dsimp only at hSw); go_simp) <;> try with_reducible rfl
                          try simp only [Act.put, List.setIfInBounds_toArray, List.set_cons_zero, List.set_cons_succ]
                          refine wpAnyH_take (i := 8) (oi := { dst := some 102, op := Op.load 3 (Operand.tmp 101), type := 3, pos := "code.go:79", after := #[{ on := 7, ground := Ground.data }, { on := 4, ground := Ground.guard }], guard := some (4, true) }) (v := ?vv9) rfl (by kernel_rfl) (by kernel_rfl) (by kernel_rfl) (fun _ _ _ h => h) (Or.inl ⟨by rfl, ?hy9⟩) (by assumption) ?rest9
                          case hy9 => (intro w hSw; (try dsimp only at hSw); go_simp) <;> try with_reducible rfl
                          try simp only [Act.put, List.setIfInBounds_toArray, List.set_cons_zero, List.set_cons_succ]
                          refine wpAnyH_take (i := 9) (oi := { dst := some 103, op := Op.indexAddr 22 (Operand.tmp 100) (Operand.tmp 102), type := 0, pos := "code.go:79", after := #[{ on := 6, ground := Ground.data }, { on := 8, ground := Ground.data }, { on := 4, ground := Ground.guard }], guard := some (4, true) }) (v := ?vv10) rfl (by kernel_rfl) (by kernel_rfl) (by kernel_rfl) (fun _ _ _ h => h) (Or.inl ⟨by rfl, ?hy10⟩) (by assumption) ?rest10
                          case hy10 => (intro w hSw; (try dsimp only at hSw); go_simp) <;> try with_reducible rfl
                          try simp only [Act.put, List.setIfInBounds_toArray, List.set_cons_zero, List.set_cons_succ]
                          refine wpAnyH_take (i := 10) (oi := { dst := some 104, op := Op.load 55 (Operand.tmp 103), type := 55, pos := "code.go:79", after := #[{ on := 9, ground := Ground.data }, { on := 4, ground := Ground.guard }], guard := some (4, true) }) (v := ?vv11) rfl (by kernel_rfl) (by kernel_rfl) (by kernel_rfl) (fun _ _ _ h => h) (Or.inl ⟨by rfl, ?hy11⟩) (by assumption) ?rest11
                          case hy11 => (intro w hSw; (try dsimp only at hSw); go_simp) <;> try with_reducible rfl
                          try simp only [Act.put, List.setIfInBounds_toArray, List.set_cons_zero, List.set_cons_succ]
                          refine wpAnyH_take (i := 11) (oi := { dst := some 105, op := Op.move (Operand.tmp 1), type := 29, pos := "code.go:79", after := #[{ on := 4, ground := Ground.guard }], guard := some (4, true) }) (v := ?vv12) rfl (by kernel_rfl) (by kernel_rfl) (by kernel_rfl) (fun _ _ _ h => h) (Or.inl ⟨by rfl, ?hy12⟩) (by assumption) ?rest12
                          case hy12 => (intro w hSw; (try dsimp only at hSw); go_simp) <;> try with_reducible rfl
                          try simp only [Act.put, List.setIfInBounds_toArray, List.set_cons_zero, List.set_cons_succ]
                          refine wpAnyH_take (i := 12) (oi := { dst := some 106, op := Op.move (Operand.tmp 9), type := 3, pos := "code.go:79", after := #[{ on := 4, ground := Ground.guard }], guard := some (4, true) }) (v := ?vv13) rfl (by kernel_rfl) (by kernel_rfl) (by kernel_rfl) (fun _ _ _ h => h) (Or.inl ⟨by rfl, ?hy13⟩) (by assumption) ?rest13
                          case hy13 => (intro w hSw; (try dsimp only at hSw); go_simp) <;> try with_reducible rfl
                          try simp only [Act.put, List.setIfInBounds_toArray, List.set_cons_zero, List.set_cons_succ]
                          refine wpAnyH_take (i := 13) (oi := { dst := some 107, op := Op.indexAddr 29 (Operand.tmp 105) (Operand.tmp 106), type := 0, pos := "code.go:79", after := #[{ on := 11, ground := Ground.data }, { on := 12, ground := Ground.data }, { on := 4, ground := Ground.guard }], guard := some (4, true) }) (v := ?vv14) rfl (by kernel_rfl) (by kernel_rfl) (by kernel_rfl) (fun _ _ _ h => h) (Or.inl ⟨by rfl, ?hy14⟩) (by assumption) ?rest14
                          case hy14 => (intro w hSw; (try dsimp only at hSw); go_simp) <;> try with_reducible rfl
                          try simp only [Act.put, List.setIfInBounds_toArray, List.set_cons_zero, List.set_cons_succ]
                          refine wpAnyH_take (i := 14) (oi := { dst := some 108, op := Op.load 3 (Operand.tmp 107), type := 3, pos := "code.go:79", after := #[{ on := 13, ground := Ground.data }, { on := 4, ground := Ground.guard }], guard := some (4, true) }) (v := ?vv15) rfl (by kernel_rfl) (by kernel_rfl) (by kernel_rfl) (fun _ _ _ h => h) (Or.inl ⟨by rfl, ?hy15⟩) (by assumption) ?rest15
                          case hy15 => (intro w hSw; (try dsimp only at hSw); go_simp) <;> try with_reducible rfl
                          try simp only [Act.put, List.setIfInBounds_toArray, List.set_cons_zero, List.set_cons_succ]
                          refine wpAnyH_ready (rs := [15]) (by kernel_rfl) (by simp) ?_
                          refine AllReadyH.cons (o := { dst := some 109, op := Op.call { callee := Callee.value (Operand.func 24), args := #[Operand.tmp 104, Operand.tmp 108], argTypes := #[54, 3] }, type := 4, pos := "code.go:79", after := #[{ on := 10, ground := Ground.data }, { on := 14, ground := Ground.data }, { on := 4, ground := Ground.chain }, { on := 4, ground := Ground.guard }], guard := some (4, true) }) rfl (fun K hK => ?_) AllReadyH.nil
                          go_simp
                          refine (see_has (B := w.heap.size) (w := w) (bc := w.heap.size) (bm := bm) (bh := bh) (mp := mp) (sp := sp) (sv := .slice (some ⟨sb, soff, none⟩) SN scap) (iv := .slice (some ⟨ib, ioff, none⟩) N icap) (vh := .slice (some ⟨g', 0, none⟩) h'.length cp') (vx := u13) (h := h') (x := x') (xb := xb) (a := a) (sb := sb) (so := soff) (u := u) (pb := pb) (po := poff + k) (p := p) (ss := ss) (r := r) (q := q') HTK.out hsslen (by assumption)).mono ?_
                          rintro e w9 ⟨rfl, hb9⟩
                          go_wp2_with fail
                          refine hK.out _ _ ?_ (fun hHeld => ?_)
                          · exact SeeS.keep (B := w.heap.size) (w := w) (bc := w.heap.size) (bm := bm) (bh := bh) (mp := mp) (sp := sp) (sv := .slice (some ⟨sb, soff, none⟩) SN scap) (iv := .slice (some ⟨ib, ioff, none⟩) N icap) (vh := .slice (some ⟨g', 0, none⟩) h'.length cp') (vx := u13) (h := h') (x := x') (xb := xb) (a := a) (sb := sb) (so := soff) (u := u) (pb := pb) (po := poff + k) (p := p) (ss := ss) (r := r) (q := q') (by assumption) (by assumption)
                          clear hK K
                          try simp only [Act.put, List.setIfInBounds_toArray, List.set_cons_zero, List.set_cons_succ]
                          refine wpAnyH_take (i := 16) (oi := { dst := some 110, op := Op.pick (Operand.tmp 98) (Operand.tmp 109) (Operand.const (Value.bool false)), type := 4, pos := "code.go:79", after := #[{ on := 4, ground := Ground.data }, { on := 15, ground := Ground.data }], guard := none }) (v := ?vv16) rfl (by kernel_rfl) (by kernel_rfl) (by kernel_rfl) (fun _ _ _ h => h) (Or.inl ⟨by rfl, ?hy16⟩) (by assumption) ?rest16
                          case hy16 => (intro w hSw; (try dsimp only at hSw); go_simp) <;> try with_reducible rfl
                          try simp only [Act.put, List.setIfInBounds_toArray, List.set_cons_zero, List.set_cons_succ]
                          refine wpAnyH_take (i := 17) (oi := { dst := some 111, op := Op.move (Operand.tmp 110), type := 4, pos := "code.go:79", after := #[{ on := 16, ground := Ground.data }, { on := 15, ground := Ground.chain }], guard := none }) (v := ?vv17) rfl (by kernel_rfl) (by kernel_rfl) (by kernel_rfl) (fun _ _ _ h => h) (Or.inl ⟨by rfl, ?hy17⟩) (by assumption) ?rest17
                          case hy17 => (intro w hSw; (try dsimp only at hSw); go_simp) <;> try with_reducible rfl
                          try simp only [Act.put, List.setIfInBounds_toArray, List.set_cons_zero, List.set_cons_succ]
                          refine wpAnyH_take (i := 18) (oi := { dst := some 112, op := Op.move (Operand.tmp 14), type := 58, pos := "code.go:79", after := #[{ on := 17, ground := Ground.guard }], guard := some (17, true) }) (v := undef) rfl (by kernel_rfl) (by kernel_rfl) (by kernel_rfl) (fun _ _ _ h => h) (Or.inr ⟨by rfl, rfl⟩) (by assumption) ?_
                          try simp only [Act.put, List.setIfInBounds_toArray, List.set_cons_zero, List.set_cons_succ]
                          refine wpAnyH_take (i := 19) (oi := { dst := some 113, op := Op.move (Operand.tmp 17), type := 3, pos := "code.go:79", after := #[{ on := 17, ground := Ground.guard }], guard := some (17, true) }) (v := undef) rfl (by kernel_rfl) (by kernel_rfl) (by kernel_rfl) (fun _ _ _ h => h) (Or.inr ⟨by rfl, rfl⟩) (by assumption) ?_
                          try simp only [Act.put, List.setIfInBounds_toArray, List.set_cons_zero, List.set_cons_succ]
                          refine wpAnyH_take (i := 20) (oi := { dst := some 114, op := Op.binOp BinOp.add 3 (Operand.tmp 113) (Operand.const (Value.int IntKind.i64 1)) 3, type := 3, pos := "code.go:79", after := #[{ on := 19, ground := Ground.data }, { on := 17, ground := Ground.guard }], guard := some (17, true) }) (v := undef) rfl (by kernel_rfl) (by kernel_rfl) (by kernel_rfl) (fun _ _ _ h => h) (Or.inr ⟨by rfl, rfl⟩) (by assumption) ?_
                          try simp only [Act.put, List.setIfInBounds_toArray, List.set_cons_zero, List.set_cons_succ]
                          refine wpAnyH_take (i := 21) (oi := { dst := some 115, op := Op.lookup 58 (Operand.tmp 112) (Operand.tmp 114) false, type := 4, pos := "code.go:79", after := #[{ on := 18, ground := Ground.data }, { on := 20, ground := Ground.data }, { on := 17, ground := Ground.guard }], guard := some (17, true) }) (v := undef) rfl (by kernel_rfl) (by kernel_rfl) (by kernel_rfl) (fun _ _ _ h => h) (Or.inr ⟨by rfl, rfl⟩) (by assumption) ?_
                          try simp only [Act.put, List.setIfInBounds_toArray, List.set_cons_zero, List.set_cons_succ]
                          refine wpAnyH_take (i := 22) (oi := { dst := some 116, op := Op.unOp UnOp.not 4 (Operand.tmp 115), type := 4, pos := "code.go:79", after := #[{ on := 21, ground := Ground.data }, { on := 17, ground := Ground.guard }], guard := some (17, true) }) (v := undef) rfl (by kernel_rfl) (by kernel_rfl) (by kernel_rfl) (fun _ _ _ h => h) (Or.inr ⟨by rfl, rfl⟩) (by assumption) ?_
                          try simp only [Act.put, List.setIfInBounds_toArray, List.set_cons_zero, List.set_cons_succ]
                          refine wpAnyH_take (i := 23) (oi := { dst := some 117, op := Op.pick (Operand.tmp 111) (Operand.tmp 116) (Operand.const (Value.bool false)), type := 4, pos := "code.go:79", after := #[{ on := 17, ground := Ground.data }, { on := 22, ground := Ground.data }], guard := none }) (v := ?vv18) rfl (by kernel_rfl) (by kernel_rfl) (by kernel_rfl) (fun _ _ _ h => h) (Or.inl ⟨by rfl, ?hy18⟩) (by assumption) ?rest18
                          case hy18 => (intro w hSw; (try dsimp only at hSw); go_simp) <;> try with_reducible rfl
                          try simp only [Act.put, List.setIfInBounds_toArray, List.set_cons_zero, List.set_cons_succ]
                          refine wpAnyH_done (by kernel_rfl) ?_ _
                          have hS10 := SeeS.keep hS9 hb9
                          obtain ⟨-, -, -, -, -, -, -, K9, B9, -⟩ := hS10
                          have HK10 : Hid _ := K9
                          have HB10 : Hid _ := B9
                          clear K9 B9 hb9 hS9
                          go_wp2_with fail
                          case roundEnd => exact ⟨⟨i + 1, h', x', _, by go_num, by go_num, hml, HME.out.1, HME.out.2, HK10.out, HB10.out, by have := HLN.out; rwa [if_neg (by decide)] at this⟩, by simp [intOf]; omega⟩
                      · have hl : VM.look c (l.drop k) r h' x' = (h', x', false) := by
                          have e : l.drop k = [] := List.drop_of_length_le (by rw [← HL.out]; omega)
                          unfold VM.look
                          rw [e]
                          simp [o1, VM.takes]
                        have HLN : Hid _ := HLE.out.step HR1.out (by omega) hl
                        have HK2 : Hid _ := hK9
                        have hml : i + 1 ≤ h'.length := by rw [← HH'.out]; omega
                        rw [o1] at i0 HB9 HK2
                        rw [hA] at i1 HB9 HK2
                        clear hl hK9 o5 o4 o3 o2 o1 hA ha hx2
                        generalize (VM.at_ c r).b = b at *
                        have hd : decide ((k : Int) < (L : Int)) = false := by simp; omega
                        go_wp2_with fail
                        go_quiet (fail)
                        go_wp2_with fail
                        case roundEnd => exact ⟨⟨i + 1, h', x', _, by go_num, by go_num, hml, HME.out.1, HME.out.2, HK2.out.below (below_drewN (Below.refl _ _) _), below_drewN HB9.out _, HLN.out⟩, by simp [intOf]; omega⟩
            · obtain rfl : i = h'.length := by omega
              obtain ⟨nao, ncp, hnv⟩ := own_slice hK.next
              have hEE : E = (h', x', false, h'.length) := by
                have := hle
                unfold LeftE at this
                rw [VM.each_end (Nat.le_refl _)] at this
                exact this
              have HR5 := HRS'.out
              rw [hEE] at HR5
              have HR6 : Hid (VM.Rest c l (k + 1) x' (n + h'.length) false R) := HR5
              have hD := hK.done
              have HD : Hid _ := hD.1
              have HB9 : Hid _ := hb8.trans hD.2
              have HMX : Hid (VM.Met N x') := hm2
              subst hnv
              obtain ⟨H', hH'⟩ : ∃ H', H' = h'.length := ⟨_, rfl⟩
              have HH' : Hid (H' = h'.length) := hH'
              rw [← hH'] at k2 hl1 hi hil HR6 ⊢
              clear hEE HR5 hD hcs hK hm1 hm2 hb8 hle hH' HRS'
              go_wp2_with fail
              case roundEnd => exact ⟨⟨k + 1, n + H', x', _, by go_num, by go_num, by omega, by omega, HD.out, HMX.out, HR6.out, HB9.out⟩, by simp [intOf]; omega⟩

end Go.Proofs.YtddjppkpgflbjaaDoor
