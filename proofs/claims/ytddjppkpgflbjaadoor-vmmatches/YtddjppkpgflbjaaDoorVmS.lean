/- The contract of leadingTo. -/
import Derived.Test.YtddjppkpgflbjaaDoorVmR
import Derived.Deep.DrawnRows
import Derived.Deep.CutRange
import Derived.Deep.RegionLaw
namespace Go.Proofs.YtddjppkpgflbjaaDoor
open Go.RowKit Go.Shelf
attribute [local go_sem ↓] Go.wp_at_zero Go.wp_at_succ

theorem made_nil (n : Nat) : madeCells #[Value.slice none 0 0] n = rowsV n (fun _ => .slice none 0 0) := by
  apply Array.ext'
  unfold madeCells rowsV
  apply List.ext_getElem
  · simp
  · intro i h1 h2
    simp [Nat.mod_one]

theorem info29 : (Tryd.prog.info? 29).map (fun i => (i.zero, i.size, i.bytes)) = some (some (.slice none 0 0), 1, 24) := by kernel_rfl

theorem edge_split {c : VM.Co} {k a b t : Nat} (h : VM.at_ c k = ⟨2, (a : Int), (b : Int)⟩) : VM.Edge c k t ↔ t = a ∨ t = b := by
  unfold VM.Edge
  rw [h]
  simp

theorem edge_jump {c : VM.Co} {k a t : Nat} {b : Int} (h : VM.at_ c k = ⟨3, (a : Int), b⟩) : VM.Edge c k t ↔ t = a := by
  unfold VM.Edge
  rw [h]
  simp

theorem edge_end {c : VM.Co} {k t : Nat} {a b : Int} (h : VM.at_ c k = ⟨4, a, b⟩) : VM.Edge c k t ↔ t = k + 1 := by
  unfold VM.Edge
  rw [h]
  simp

theorem edge_none {c : VM.Co} {k t : Nat} {o a b : Int} (h : VM.at_ c k = ⟨o, a, b⟩) (h2 : o ≠ 2) (h3 : o ≠ 3) (h4 : o ≠ 4) : ¬ VM.Edge c k t := by
  unfold VM.Edge
  rw [h]
  simp [h2, h3, h4]

set_option maxHeartbeats 16000000 in
set_option maxRecDepth 100000 in
theorem leading_any (iv : Value) (c : VM.Co) (w : World) (hr : VM.right c = true) (hI : InsAt w.heap.size w iv c.ins) (hlen : c.ins.length ≤ 100000) :
    Calls Tryd.prog 68 #[iv] w fun e w' => ∃ ob V A, e = .returned (.slice (some ⟨ob, 0, none⟩) c.ins.length c.ins.length) ∧ Grid w.heap.size w' ob c.ins.length V A ∧ (∀ t, t < c.ins.length → VM.Led c c.ins.length t (A t)) ∧ (∀ t, t < c.ins.length → (A t).length ≤ c.ins.length + c.ins.length) ∧ Below w.heap.size w w' := by
  obtain ⟨io, ic, rfl, hic, hcell⟩ := hI
  have hn1 := (VM.right_parts hr).1
  obtain ⟨ib, ioff, rfl, hib, hcs⟩ := hcell (fun e => by rw [e] at hn1; simp at hn1)
  have HC : Hid (∀ k (h : k < c.ins.length), w.cell? ⟨ib, ioff + k * 3, none⟩ = some (.int .i64 c.ins[k].op) ∧ w.cell? ⟨ib, ioff + k * 3 + 1, none⟩ = some (.int .i64 c.ins[k].a) ∧ w.cell? ⟨ib, ioff + k * 3 + 2, none⟩ = some (.int .i64 c.ins[k].b)) := hcs
  have HR : Hid (VM.right c = true) := hr
  obtain ⟨N, hN⟩ : ∃ N, N = c.ins.length := ⟨_, rfl⟩
  have HN : Hid (N = c.ins.length) := hN
  have hmk := run_make_row' (P := Tryd.prog) 123 29 (.slice none 0 0) 24 Tryd.underlying123 info29 rfl .i64 .i64 N (by omega) (by omega) w
  rw [made_nil] at hmk
  rw [← hN] at hlen hic hn1 ⊢
  clear hcell hcs hr hN
  go_enter Tryd.func68, Tryd.ntmps68
  go_wp2_with fail
  go_loopw [11] (fun i wr => ∃ (k : Nat) (V : Nat → Value) (A : Nat → List Nat), i = .int .i64 k ∧ k ≤ N ∧ Grid w.heap.size wr w.heap.size N V A ∧ (∀ t, t < N → VM.Led c k t (A t)) ∧ (∀ t, t < N → (A t).length ≤ k + k) ∧ Below w.heap.size w wr) (fun i _ => N - (intOf i).toNat)
  case atStart => exact ⟨0, _, _, rfl, Nat.zero_le _, Grid.start (Nat.le_refl _), fun t _ => VM.led_zero c t, fun _ _ => Nat.le_refl _, (Below.refl _ w).alloc (Nat.le_refl _) _⟩
  case round =>
    obtain ⟨k, V, A, rfl, hk, hG, hL, hlens, hbw⟩ := hrel
    have HB : Hid (Below w.heap.size w wr) := hbw
    have HG : Hid (Grid w.heap.size wr w.heap.size N V A) := hG
    have HL : Hid (∀ t, t < N → VM.Led c k t (A t)) := hL
    have HLE : Hid (∀ t, t < N → (A t).length ≤ k + k) := hlens
    clear hbw hG hL hlens
    by_cases hlt : k < N
    · have hki : k < c.ins.length := by have := HN.out; omega
      obtain ⟨i0, i1, i2⟩ := HC.out k hki
      have j0 := (HB.out.cell (p := ⟨ib, ioff + k * 3, none⟩) (by exact hib)).trans i0
      have j1 := (HB.out.cell (p := ⟨ib, ioff + k * 3 + 1, none⟩) (by exact hib)).trans i1
      have j2 := (HB.out.cell (p := ⟨ib, ioff + k * 3 + 2, none⟩) (by exact hib)).trans i2
      have hra := VM.right_a HR.out hki
      have hrb := VM.right_b HR.out hki
      have hrn := VM.right_next HR.out hki
      obtain ⟨x, hx⟩ : ∃ x, x = c.ins[k] := ⟨_, rfl⟩
      have HX : Hid (VM.at_ c k = x) := (VM.at_get c hki).trans hx.symm
      rw [VM.at_get c hki, ← hx] at hra hrb hrn
      rw [← HN.out] at hra hrb hrn
      rw [← hx] at j0 j1 j2
      clear hx i0 i1 i2
      obtain ⟨o, a, b⟩ := x
      dsimp only at j0 j1 j2 hra hrb hrn
      have hkz : (k : Int) < (N : Int) := by omega
      have hbx : Below wr.heap.size wr (wr.alloc (.cells #[.int .i64 o, .int .i64 a, .int .i64 b] 50)) := (Below.refl _ wr).alloc (Nat.le_refl _) _
      have hxb : (wr.alloc (.cells #[.int .i64 o, .int .i64 a, .int .i64 b] 50)).heap[wr.heap.size]? = some (.cells #[.int .i64 o, .int .i64 a, .int .i64 b] 50 (0, 0)) := heap_alloc_new _ _
      have G1 := HG.out.below hbx
      have hsz := HB.out.size
      have hsx : (wr.alloc (.cells #[.int .i64 o, .int .i64 a, .int .i64 b] 50)).heap.size = wr.heap.size + 1 := by simp
      by_cases ho2 : o = 2
      · subst ho2
        have ha := hra (.inl rfl)
        have hb := hrb rfl
        clear hra hrb hrn
        obtain ⟨a', rfl⟩ : ∃ a' : Nat, a = a' := ⟨a.toNat, by omega⟩
        obtain ⟨b', rfl⟩ : ∃ b' : Nat, b = b' := ⟨b.toNat, by omega⟩
        obtain ⟨ao1, n1, cp1, W1, hr1, ⟨q1, q2, q3⟩, ⟨q4, q5, q6⟩, ⟨q7, ⟨u1, q8⟩, q9, q10⟩, hG1, hB1, hX1⟩ := G1.step (t := a') (by omega) k (by have := HLE.out a' (by omega); omega) (by omega) hxb
        rw [hsx] at hr1
        have HR1 : Hid ((Builtin.append_ #[29, 29] 29 #[V a', .slice (some ⟨wr.heap.size + 1, 0, none⟩) 1 1]).run Tryd.prog ((wr.alloc (.cells #[.int .i64 2, .int .i64 (a' : Int), .int .i64 (b' : Int)] 50)).drew.alloc (.cells #[.int .i64 (k : Int)] 3)) = .ok (.slice ao1 n1 cp1) W1) := hr1
        have HG1 : Hid (Grid w.heap.size (W1.setCell ⟨w.heap.size, a', none⟩ (.slice ao1 n1 cp1)) w.heap.size N (upd V a' (.slice ao1 n1 cp1)) (upd A a' (A a' ++ [k]))) := hG1
        have HB1 : Hid (Below w.heap.size wr (W1.setCell ⟨w.heap.size, a', none⟩ (.slice ao1 n1 cp1))) := (hbx.mono hsz).trans hB1
        have HX1 : Hid ((W1.setCell ⟨w.heap.size, a', none⟩ (.slice ao1 n1 cp1)).heap[wr.heap.size]? = some (Obj.cells #[.int .i64 2, .int .i64 (a' : Int), .int .i64 (b' : Int)] 50 (0, 0))) := hX1
        clear hr1 hG1 hB1 hX1 hbx hxb G1
        go_upto_region 7 with fail
        go_cut [] from 12 to 72 (fun wx => wx = W1.setCell ⟨w.heap.size, a', none⟩ (.slice ao1 n1 cp1))
        case first =>
          go_region_law (first | (refine step_append_run rfl (.tmp 27) (.tmp 29) 29 rfl _ _ (.slice ao1 n1 cp1) W1 rfl rfl HR1.out ?_))
          all_goals go_wp2_with fail
          all_goals go_meet
          all_goals rfl
        case rest =>
          subst hcut
          clear q1 q2 q3 q4 q5 q6 q7 q8 q9 q10
          have hsz1 := HB1.out.size
          obtain ⟨ao2, n2, cp2, W2, hr2, ⟨q1, q2, q3⟩, ⟨q4, q5, q6⟩, ⟨q7, ⟨u2, q8⟩, q9, q10⟩, hG2, hB2, hX2⟩ := HG1.out.step (t := b') (by omega) k (by have := len_upd (N := N) (k := k) (t := b') (t0 := a') HLE.out (by omega) (by omega); omega) (by omega) HX1.out
          obtain ⟨Wx, hWx⟩ : ∃ Wx, Wx = W1.setCell ⟨w.heap.size, a', none⟩ (.slice ao1 n1 cp1) := ⟨_, rfl⟩
          rw [← hWx] at hr2 q1 q2 q3 q4 q5 q6 hB2 hsz1 ⊢
          obtain ⟨V1, hV1⟩ : ∃ V1, V1 = upd V a' (.slice ao1 n1 cp1) := ⟨_, rfl⟩
          rw [← hV1] at hr2 q1 q4
          have HR2 : Hid ((Builtin.append_ #[29, 29] 29 #[V1 b', .slice (some ⟨Wx.heap.size, 0, none⟩) 1 1]).run Tryd.prog (Wx.drew.alloc (.cells #[.int .i64 (k : Int)] 3)) = .ok (.slice ao2 n2 cp2) W2) := hr2
          have HG2 : Hid (Grid w.heap.size (W2.setCell ⟨w.heap.size, b', none⟩ (.slice ao2 n2 cp2)) w.heap.size N (upd (upd V a' (.slice ao1 n1 cp1)) b' (.slice ao2 n2 cp2)) (upd (upd A a' (A a' ++ [k])) b' (upd A a' (A a' ++ [k]) b' ++ [k]))) := hG2
          have HB2 : Hid (Below w.heap.size wr (W2.setCell ⟨w.heap.size, b', none⟩ (.slice ao2 n2 cp2))) := by
            refine HB1.out.trans ?_
            rw [← hWx]
            exact hB2
          clear hr2 hG2 hB2 hX2 hWx hV1
          go_upto_region 8 with fail
          go_region_law (first | (refine step_append_run rfl (.tmp 39) (.tmp 41) 29 rfl _ _ (.slice ao2 n2 cp2) W2 rfl rfl HR2.out ?_))
          all_goals clear q1 q2 q3 q4 q5 q6 j0 j1 j2
          all_goals go_wp2_with fail
          all_goals go_roundw
          all_goals first
            | (simp [intOf]; omega)
            | (refine ⟨k + 1, _, _, by go_num, by omega, HG2.out, fun t ht => led_step (HL.out t ht) (fun j => ?_), fun t ht => ?_, HB.out.trans HB2.out⟩
               · rw [mem_upd, mem_upd, edge_split HX.out]
                 constructor
                 · rintro ((h | ⟨h, h'⟩) | ⟨h, h'⟩)
                   · exact .inl h
                   · exact .inr ⟨h, .inl h'⟩
                   · exact .inr ⟨h, .inr h'⟩
                 · rintro (h | ⟨h, h' | h'⟩)
                   · exact .inl (.inl h)
                   · exact .inl (.inr ⟨h, h'⟩)
                   · exact .inr ⟨h, h'⟩
               · have := len_upd (N := N) (k := k) (t := t) (t0 := b') (m := k + k + 1) (A := upd A a' (A a' ++ [k])) (fun s hs => len_upd HLE.out hs (by omega)) ht (by omega)
                 omega)
      · by_cases ho3 : o = 3
        · subst ho3
          have ha := hra (.inr rfl)
          clear hra hrb hrn
          obtain ⟨a', rfl⟩ : ∃ a' : Nat, a = a' := ⟨a.toNat, by omega⟩
          obtain ⟨ao1, n1, cp1, W1, hr1, ⟨q1, q2, q3⟩, ⟨q4, q5, q6⟩, ⟨q7, ⟨u1, q8⟩, q9, q10⟩, hG1, hB1, hX1⟩ := G1.step (t := a') (by omega) k (by have := HLE.out a' (by omega); omega) (by omega) hxb
          rw [hsx] at hr1
          have HR1 : Hid ((Builtin.append_ #[29, 29] 29 #[V a', .slice (some ⟨wr.heap.size + 1, 0, none⟩) 1 1]).run Tryd.prog ((wr.alloc (.cells #[.int .i64 3, .int .i64 (a' : Int), .int .i64 b] 50)).drew.alloc (.cells #[.int .i64 (k : Int)] 3)) = .ok (.slice ao1 n1 cp1) W1) := hr1
          have HG1 : Hid (Grid w.heap.size (W1.setCell ⟨w.heap.size, a', none⟩ (.slice ao1 n1 cp1)) w.heap.size N (upd V a' (.slice ao1 n1 cp1)) (upd A a' (A a' ++ [k]))) := hG1
          have HB1 : Hid (Below w.heap.size wr (W1.setCell ⟨w.heap.size, a', none⟩ (.slice ao1 n1 cp1))) := (hbx.mono hsz).trans hB1
          clear hr1 hG1 hB1 hX1 hbx hxb G1
          go_upto_region 10 with fail
          go_region_law (first | (refine step_append_run rfl (.tmp 53) (.tmp 55) 29 rfl _ _ (.slice ao1 n1 cp1) W1 rfl rfl HR1.out ?_))
          all_goals clear q1 q2 q3 q4 q5 q6 j0 j1 j2
          all_goals go_wp2_with fail
          all_goals go_roundw
          all_goals first
            | (simp [intOf]; omega)
            | (refine ⟨k + 1, _, _, by go_num, by omega, HG1.out, fun t ht => led_step (HL.out t ht) (fun j => ?_), fun t ht => ?_, HB.out.trans HB1.out⟩
               · rw [mem_upd, edge_jump HX.out]
               · have := len_upd (N := N) (k := k) (t := t) (t0 := a') HLE.out ht (by omega)
                 omega)
        · by_cases ho4 : o = 4
          · subst ho4
            have hn := hrn (.inr rfl)
            clear hra hrb hrn
            obtain ⟨v1, W1, hr1, q7, ⟨u1, q8⟩, hG1, hB1, -⟩ := G1.add (t := k + 1) (by omega) k (by have := HLE.out (k + 1) (by omega); omega) (by omega)
            have hs1 := hG1.slice (t := k + 1) (by omega)
            rw [upd_same] at hs1
            obtain ⟨ao1, cp1, hv1⟩ := hs1
            obtain ⟨n1, hn1'⟩ : ∃ n, n = (upd A (k + 1) (A (k + 1) ++ [k]) (k + 1)).length := ⟨_, rfl⟩
            rw [← hn1'] at hv1
            clear hn1'
            subst hv1
            rw [hsx] at hr1
            have q1 := G1.cell (t := k + 1) (by omega)
            have HR1 : Hid ((Builtin.append_ #[29, 29] 29 #[V (k + 1), .slice (some ⟨wr.heap.size + 1, 0, none⟩) 1 1]).run Tryd.prog ((wr.alloc (.cells #[.int .i64 4, .int .i64 a, .int .i64 b] 50)).alloc (.cells #[.int .i64 (k : Int)] 3)) = .ok (.slice ao1 n1 cp1) W1) := hr1
            have HG1 : Hid (Grid w.heap.size (W1.setCell ⟨w.heap.size, k + 1, none⟩ (.slice ao1 n1 cp1)) w.heap.size N (upd V (k + 1) (.slice ao1 n1 cp1)) (upd A (k + 1) (A (k + 1) ++ [k]))) := hG1
            have HB1 : Hid (Below w.heap.size wr (W1.setCell ⟨w.heap.size, k + 1, none⟩ (.slice ao1 n1 cp1))) := (hbx.mono hsz).trans hB1
            have hz2 : (k : Int) + 1 < (N : Int) := by omega
            clear hr1 hG1 hB1 hbx hxb G1
            go_wp2_with (at_builtin; refine Lib.wpList_append_run _ rfl _ _ _ _ rfl _ _ rfl rfl _ _ HR1.out ?_)
            go_wp2_with fail
            go_roundw
            case rel =>
              refine ⟨k + 1, _, _, by go_num, by omega, HG1.out, fun t ht => led_step (HL.out t ht) (fun j => ?_), fun t ht => ?_, HB.out.trans HB1.out⟩
              · rw [mem_upd, edge_end HX.out]
              · have := len_upd (N := N) (k := k) (t := t) (t0 := k + 1) HLE.out ht (by omega)
                omega
            case measure => simp [intOf]; omega
          · clear hra hrb hrn
            have e2 : (o == 2) = false := by simp [ho2]
            have e3 : (o == 3) = false := by simp [ho3]
            have e4 : (o == 4) = false := by simp [ho4]
            have HG1 : Hid (Grid w.heap.size (wr.alloc (.cells #[.int .i64 o, .int .i64 a, .int .i64 b] 50)) w.heap.size N V A) := G1
            have HB1 : Hid (Below w.heap.size wr (wr.alloc (.cells #[.int .i64 o, .int .i64 a, .int .i64 b] 50))) := hbx.mono hsz
            clear hbx hxb G1
            go_wp2_with fail
            case roundEnd =>
              refine ⟨⟨k + 1, _, _, by go_num, by omega, HG1.out, fun t ht => led_step (HL.out t ht) (fun j => ?_), fun t ht => ?_, HB.out.trans HB1.out⟩, by simp [intOf]; omega⟩
              · constructor
                · exact .inl
                · rintro (h | ⟨_, h⟩)
                  · exact h
                  · exact absurd h (edge_none HX.out ho2 ho3 ho4)
              · have := HLE.out t ht
                omega
    · obtain rfl : k = N := by omega
      have hz : ¬ ((k : Int) < (k : Int)) := by omega
      go_wp2_with fail
      go_ret
      exact ⟨_, rfl, V, A, HG.out, fun t ht => HL.out t ht, fun t ht => HLE.out t ht, HB.out⟩

end Go.Proofs.YtddjppkpgflbjaaDoor
