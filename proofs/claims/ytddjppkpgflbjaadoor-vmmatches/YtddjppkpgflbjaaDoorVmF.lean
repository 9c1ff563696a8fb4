/- The contract of each: all that are met are looked at. -/
import Derived.Test.YtddjppkpgflbjaaDoorVmE
namespace Go.Proofs.YtddjppkpgflbjaaDoor
open Go.RowKit Go.Shelf

theorem Looked.trans {B : Nat} {s : Site} {n : Nat} {sv iv lv : Value} {w w1 w2 : World} {vh vx vh' vx' : Value} {r : List Nat × List Nat × Bool} (hb : But (Turns s vh vx) w w1) (h1 : Later w vh vh') (h2 : Later w vx vx') (L : Looked B s n sv iv lv w1 vh' vx' r w2) : Looked B s n sv iv lv w vh vx r w2 := by
  obtain ⟨a, b, S, hB, h3, h4⟩ := L
  refine ⟨a, b, S, hb.trans hB (fun j hj => ?_), h1.trans h3 hb.size, h2.trans h4 hb.size⟩
  rcases hj with (rfl | rfl | hg) | (rfl | rfl | hg) | rfl
  · exact .inl (.inl (.inl rfl))
  · exact .inl (.inl (.inr (.inl rfl)))
  · exact (h1 j hg).elim (fun h => .inl (.inl (.inr (.inr h)))) .inr
  · exact .inl (.inr (.inl (.inl rfl)))
  · exact .inl (.inr (.inl (.inr (.inl rfl))))
  · exact (h2 j hg).elim (fun h => .inl (.inr (.inl (.inr (.inr h))))) .inr
  · exact .inl (.inr (.inr rfl))

theorem MetAt.cells {B : Nat} {w : World} {m hb : Nat} {v : Value} {n : Nat} {o : List Nat} (h : MetAt B w m hb v n o) : ∃ ao cp, v = .slice ao o.length cp ∧ w.cell? ⟨m, 0, none⟩ = some (.slice ao o.length cp) ∧ ∀ k (hk : k < o.length), ∃ g, ao = some ⟨g, 0, none⟩ ∧ w.cell? ⟨g, k, none⟩ = some (.int .i64 (o[k] : Nat)) := by
  obtain ⟨ao, cp, rfl⟩ := own_slice h.order
  refine ⟨ao, cp, rfl, cell_of_row w m 0 _ _ _ h.struct_, fun k hk => ?_⟩
  obtain ⟨_, ⟨_, h0⟩ | ⟨g, cap, cur, hs, _⟩⟩ := h.order
  · omega
  · cases hs
    refine ⟨g, rfl, ?_⟩
    have := h.order.cells (g := g) rfl k (.int .i64 (o[k] : Nat)) (by simp [nums, hk])
    simpa [Addr.add_lit] using this

set_option maxHeartbeats 2000000 in
set_option maxRecDepth 100000 in
theorem each_any (B : Nat) (s : Site) (sv iv lv : Value) (c : VM.Co) (l : List Int) (h x : List Nat) (vh vx : Value) (w : World) (S : St B s c.ins.length sv iv lv w vh vx h x false) (F : Fit B w sv iv lv c l)
    (hh : VM.Met c.ins.length h) (hx : VM.Met c.ins.length x) :
    Calls Tryd.prog 45 #[.pointer (some ⟨s.mh, 0, none⟩), .func (.func 46) #[] (caught s)] w fun e w' => e = .returned (.int .i64 ((VM.each c l (c.ins.length + 1) 0 h x).2.2.2 : Nat)) ∧
      Looked B s c.ins.length sv iv lv w vh vx ((VM.each c l (c.ins.length + 1) 0 h x).1, (VM.each c l (c.ins.length + 1) 0 h x).2.1, (VM.each c l (c.ins.length + 1) 0 h x).2.2.1) w' := by
  have eg : ∀ args w, (callFunc 46 args).run Tryd.prog w = .ok (.enter 46 args) w := enters_of Tryd.func46 (by kernel_rfl) rfl
  obtain ⟨R, hR⟩ : ∃ R, R = VM.each c l (c.ins.length + 1) 0 h x := ⟨_, rfl⟩
  rw [← hR]
  have hlen := F.lens.1
  obtain ⟨N, hN⟩ : ∃ N, N = c.ins.length := ⟨_, rfl⟩
  rw [← hN] at hlen
  have HF : Hid (Fit B w sv iv lv c l) := F
  have HS : Hid (St B s c.ins.length sv iv lv w vh vx h x false) := S
  have HR : Hid (R = VM.each c l (c.ins.length + 1) 0 h x) := hR
  have HM : Hid (VM.Met c.ins.length h ∧ VM.Met c.ins.length x) := ⟨hh, hx⟩
  have HN : Hid (N = c.ins.length) := hN
  clear F S hR hh hx hN
  go_enter Tryd.func45, Tryd.ntmps45
  go_wp2_with fail
  go_loopw [5] (fun i wr => ∃ (k : Nat) (h' x' : List Nat) (vh' vx' : Value), i = .int .i64 k ∧ k ≤ h'.length ∧ VM.Met c.ins.length h' ∧ VM.Met c.ins.length x' ∧ St B s c.ins.length sv iv lv wr vh' vx' h' x' false ∧ But (Turns s vh vx) w wr ∧ Later w vh vh' ∧ Later w vx vx' ∧ R = VM.each c l (c.ins.length + 1 - k) k h' x') (fun i _ => N + 1 - (intOf i).toNat)
  case atStart => exact ⟨0, h, x, vh, vx, rfl, Nat.zero_le _, HM.out.1, HM.out.2, HS.out, But.refl _ _, Later.refl _ _, Later.refl _ _, HR.out⟩
  case round =>
    obtain ⟨k, h', x', vh', vx', rfl, hk, hm1, hm2, S1, hb1, hl1, hl2, hr1⟩ := hrel
    have hlen' := hm1.length
    rw [← HN.out] at hlen'
    obtain ⟨ao, cp, hv, c0, hcs⟩ := S1.here.cells
    have hbl : Below B w wr := hb1.below HS.out.size (fun j hj => (turns_low HS.out hj).1)
    have F1 := HF.out.below hbl
    by_cases hlt : k < h'.length
    · obtain ⟨g, rfl, hcell⟩ := hcs k hlt
      have hi : h'[k] < c.ins.length := hm1.2 _ (List.getElem_mem hlt)
      have C := look_any B s sv iv lv c l h'[k] h' x' vh' vx' wr S1 F1 hi hm1 hm2
      have hstep : R = if (VM.look c l h'[k] h' x').2.2 then ((VM.look c l h'[k] h' x').1, (VM.look c l h'[k] h' x').2.1, true, k + 1) else VM.each c l (c.ins.length + 1 - (k + 1)) (k + 1) (VM.look c l h'[k] h' x').1 (VM.look c l h'[k] h' x').2.1 := by
        rw [hr1, show c.ins.length + 1 - k = (c.ins.length + 1 - (k + 1)) + 1 by have := hm1.length; omega]
        conv => lhs; unfold VM.each
        rw [List.getElem?_eq_getElem hlt]
      have hmet := VM.look_met F1.right (left := l) hi hm1 hm2
      have hpre := hmet.2.2.length_le
      generalize VM.look c l h'[k] h' x' = r at C hstep hmet hpre
      generalize h'[k] = i at C hcell
      obtain ⟨r1, r2, r3⟩ := r
      dsimp only at C hstep hmet hpre
      have HST : Hid (R = if r3 then (r1, r2, true, k + 1) else VM.each c l (c.ins.length + 1 - (k + 1)) (k + 1) r1 r2) := hstep
      have HK : Hid (But (Turns s vh vx) w wr ∧ Later w vh vh' ∧ Later w vx vx') := ⟨hb1, hl1, hl2⟩
      have HME : Hid (VM.Met c.ins.length r1 ∧ VM.Met c.ins.length r2) := ⟨hmet.1, hmet.2.1⟩
      clear S1 hb1 hl1 hl2 hr1 hm1 hm2 hcs hbl F1 hstep hmet hi
      generalize h'.length = L at *
      have hkz : (k : Int) < (L : Int) := by omega
      go_wp2_with fail
      refine C.mono ?_
      rintro e w1 ⟨rfl, L1⟩
      have L2 := L1.trans HK.out.1 HK.out.2.1 HK.out.2.2
      clear C L1 c0 hcell
      cases r3 with
      | true =>
        have HL2 : Hid (Looked B s c.ins.length sv iv lv w vh vx (r1, r2, true) w1) := L2
        clear L2
        go_wp2_with fail
        go_ret
        have e : R = (r1, r2, true, k + 1) := by rw [HST.out]; rfl
        rw [e]
        exact ⟨ret_int (by simp), HL2.out⟩
      | false =>
        have HL2 : Hid (Looked B s c.ins.length sv iv lv w vh vx (r1, r2, false) w1) := L2
        clear L2
        go_wp2_with fail
        case roundEnd =>
          obtain ⟨v1, v2, S2, hb2, hl1, hl2⟩ := HL2.out
          exact ⟨⟨k + 1, r1, r2, v1, v2, by go_num, by omega, HME.out.1, HME.out.2, S2, hb2, hl1, hl2, HST.out⟩, by simp [intOf]; omega⟩
    · obtain rfl : k = h'.length := by omega
      have hR2 : R = (h', x', false, h'.length) := by
        rw [hr1, show c.ins.length + 1 - h'.length = (c.ins.length - h'.length) + 1 by have := hm1.length; omega]
        unfold VM.each
        rw [List.getElem?_eq_none (Nat.le_refl _)]
      have HL2 : Hid (Looked B s c.ins.length sv iv lv w vh vx (h', x', false) wr) := ⟨vh', vx', S1, hb1, hl1, hl2⟩
      have HR2 : Hid (R = (h', x', false, h'.length)) := hR2
      clear S1 hb1 hl1 hl2 hr1 hm1 hm2 hcs hbl F1 hR2 hv
      obtain ⟨L, hL⟩ : ∃ L, L = h'.length := ⟨_, rfl⟩
      have HL : Hid (L = h'.length) := hL
      rw [← hL] at c0 hlen' hlt hk ⊢
      clear hL
      go_wp2_with fail
      go_ret
      rw [HR2.out]
      exact ⟨ret_int (by rw [HL.out]), HL2.out⟩

end Go.Proofs.YtddjppkpgflbjaaDoor
