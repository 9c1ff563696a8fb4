/- The contract of oneKind, out of those one deeper. -/
import Derived.Test.YtjbmdnkpfkelmaaGreatDoorParG
import Derived.Test.YtjbmdnkpfkelmaaGreatDoorPlain
namespace Go.Proofs.YtjbmdnkpfkelmaaGreatDoor.Q
open Go.RowKit Go.Shelf

/-- A method that reads a kind at this depth. -/
def KindC (fn d : Nat) (P : Nat → List RP.Tok → RP.Res RP.K) : Prop :=
  ∀ (pb c : Nat) (ts : List RP.Tok) (w : World), RP.Fine ts → 5 < pb → KT w → PS pb ts c w →
    Calls Tryz.prog fn #[.pointer (some ⟨pb, 0, none⟩), .int .i64 d] w (Step pb c w (P c ts) fun k v w' => KAt (New w) w' v k)

theorem KAt.ptr {ok : Nat → Prop} {w : World} {v : Value} {k : RP.K} (h : KAt ok w v k) : ∃ b, v = .pointer (some ⟨b, 0, none⟩) := by
  cases k with
  | lit => obtain ⟨b, _, h, _⟩ := h; exact ⟨b, h⟩
  | ref => obtain ⟨b, h, _⟩ := h; exact ⟨b, h⟩
  | bin => obtain ⟨b, _, _, h, _⟩ := h; exact ⟨b, h⟩
  | neg => obtain ⟨b, _, h, _⟩ := h; exact ⟨b, h⟩

theorem text_eq {t : RP.Tok} {x : List UInt8} (h : t.text = x) : (⟨t.text.toArray⟩ : ByteArray) = ⟨x.toArray⟩ := by rw [h]
theorem text_ne {t : RP.Tok} {x : List UInt8} (h : t.text ≠ x) : (⟨t.text.toArray⟩ : ByteArray) ≠ ⟨x.toArray⟩ := fun e => h (by simpa using e)

set_option maxHeartbeats 1000000 in
set_option maxRecDepth 100000 in
theorem oneKind_zero : KindC 47 9 (fun c => RP.oneKindP setOf c 0) := by
  intro pb c ts w hf h5 hK h
  dsimp only
  obtain ⟨t, r, rfl⟩ := hf.cons
  have hF := refuse_any 4 pb t r c w h
  have HR : Hid (RP.oneKindP setOf c 0 (t :: r) = .error ⟨refuseE 4 t c, t.at_⟩) := by show _ = _; rw [RP.oneKindP]; rfl
  clear h hf hK h5
  go_enter Tryz.func47, Tryz.ntmps47
  go_wp2_with fail
  refine hF.mono ?_
  rintro e w2 ⟨⟨b, rfl, k1, k2, k3⟩, hb2⟩
  go_wp2_with fail
  exact ⟨rfl, Step.map HR.out ⟨rfl, rfl, rfl, Nat.le_refl _, fun _ _ _ => rfl⟩ (grown_below hb2 _) ⟨b, rfl, k1, k2, k3⟩⟩

set_option maxHeartbeats 1000000 in
set_option maxRecDepth 100000 in
theorem oneKind_succ (d m : Nat) (hd : d ≤ 8) (h1 : KindC 47 (d + 1) (fun c => RP.oneKindP setOf c m)) (h2 : KindC 38 (d + 1) (fun c => RP.kindP (RP.oneKindP setOf c m))) : KindC 47 d (fun c => RP.oneKindP setOf c (m + 1)) := by
  intro pb c ts w hf h5 hK h
  dsimp only
  obtain ⟨t, r, rfl⟩ := hf.cons
  have hl := h.lt
  have hdc : ((d + 1 : Nat) : Int) = (d : Int) + 1 := by omega
  by_cases ht : t.text = [126]
  · have hA := accept_yes pb t r c ⟨#[126]⟩ (text_eq ht) w h
    obtain ⟨tb, off, cap, c0, c1, f0, f1, hc, hcm, t0, t1, t2, -, -, -⟩ := h.open
    have hq : RP.Fine r := hf.next (.inr (by rw [ht]; simp))
    have hC := fun w' hk hp => h1 pb c r w' hq h5 hk hp
    rw [hdc] at hC
    dsimp only at hC
    cases hr : RP.oneKindP setOf c m r with
    | error b =>
      have HR : Hid (RP.oneKindP setOf c (m + 1) (t :: r) = .error b) := by show _ = _; rw [RP.oneKindP, RP.hd, List.headD_cons, if_pos ht, List.tail_cons, hr]
      rw [hr] at hC
      have HK : Hid (KT w) := hK
      clear h hK hf hq ht hr h1 h2
      go_enter Tryz.func47, Tryz.ntmps47
      go_wp2_with fail
      refine hA.mono ?_
      rintro e w1 ⟨rfl, hp1, hg1⟩
      have hC1 := hC w1 (HK.out.grown hg1 h5) hp1
      clear hA hC hp1
      go_wp2_with fail
      refine hC1.mono ?_
      rintro e w2 ⟨hg2, b', rfl, k1, k2, k3⟩
      go_wp2_with fail
      exact ⟨rfl, Step.map HR.out hg1 hg2 ⟨b', rfl, k1, k2, k3⟩⟩
    | ok x =>
      obtain ⟨k, q⟩ := x
      have HR : Hid (RP.oneKindP setOf c (m + 1) (t :: r) = .ok (.neg t.at_ k, q)) := by show _ = _; rw [RP.oneKindP, RP.hd, List.headD_cons, if_pos ht, List.tail_cons, hr]
      rw [hr] at hC
      have HK : Hid (KT w) := hK
      clear h hK hf hq ht hr h1 h2
      go_enter Tryz.func47, Tryz.ntmps47
      go_wp2_with fail
      refine hA.mono ?_
      rintro e w1 ⟨rfl, hp1, hg1⟩
      have hC1 := hC w1 (HK.out.grown hg1 h5) hp1
      clear hA hC hp1 c0 c1 f0 f1 t0 t1 t2
      go_wp2_with fail
      refine hC1.mono ?_
      rintro e w2 ⟨hg2, hp2, v, rfl, hv⟩
      have HP2 : Hid (PS pb q c w2) := hp2
      have HV : Hid (KAt (New w1) w2 v k) := hv
      have hs1 := hg1.size
      have hs2 := hg2.size
      obtain ⟨vb, rfl⟩ := hv.ptr
      clear hp2 hv hC1
      go_wp2_with fail
      go_ret
      refine Step.ok HR.out ((hg1.trans hg2).trans (World.grownBy_alloc _ _ _)) (HP2.out.grown (World.grownBy_alloc _ _ _)) ?_
      exact ⟨w2.heap.size, _, rfl, (by unfold New; omega), heap_alloc_new _ _, (HV.out.mono (New.mono hs1)).keep (Keeps.alloc _ _ _)⟩
  · have hA := accept_no pb t r c ⟨#[126]⟩ (text_ne ht) w h
    by_cases ht2 : t.text = [40]
    · have hB := accept_yes pb t r c ⟨#[40]⟩ (text_eq ht2) w h
      obtain ⟨tb, off, cap, c0, c1, f0, f1, hc, hcm, t0, t1, t2, -, -, -⟩ := h.open
      have hq : RP.Fine r := hf.next (.inr (by rw [ht2]; simp))
      have hC := fun w' hk hp => h2 pb c r w' hq h5 hk hp
      rw [hdc] at hC
      dsimp only at hC
      cases hr : RP.kindP (RP.oneKindP setOf c m) r with
      | error b =>
        have HR : Hid (RP.oneKindP setOf c (m + 1) (t :: r) = .error b) := by show _ = _; rw [RP.oneKindP, RP.hd, List.headD_cons, if_neg ht, if_pos ht2, List.tail_cons, hr]
        rw [hr] at hC
        have HK : Hid (KT w) := hK
        clear h hK hf hq ht ht2 hr h1 h2
        go_enter Tryz.func47, Tryz.ntmps47
        go_wp2_with fail
        refine hA.mono ?_
        rintro e w' ⟨rfl, hw⟩
        obtain rfl := hw.symm
        clear hA
        go_wp2_with fail
        refine hB.mono ?_
        rintro e w1 ⟨rfl, hp1, hg1⟩
        have hC1 := hC w1 (HK.out.grown hg1 h5) hp1
        clear hB hC hp1
        go_wp2_with fail
        refine hC1.mono ?_
        rintro e w2 ⟨hg2, b', rfl, k1, k2, k3⟩
        go_wp2_with fail
        exact ⟨rfl, Step.map HR.out hg1 hg2 ⟨b', rfl, k1, k2, k3⟩⟩
      | ok x =>
        obtain ⟨k, q⟩ := x
        have hqf := (RP.kindP_fine (RP.oneKindP_fine setOf c m) _ _ _ hq hr).1
        obtain ⟨t3, q3, rfl⟩ := hqf.cons
        rw [hr] at hC
        by_cases h41 : t3.text = [41]
        · have HR : Hid (RP.oneKindP setOf c (m + 1) (t :: r) = .ok (k, q3)) := by show _ = _; rw [RP.oneKindP, RP.hd, List.headD_cons, if_neg ht, if_pos ht2, List.tail_cons, hr]; simp only [RP.markP, if_pos h41]
          have hM := fun w' hp => mark_yes pb t3 q3 c ⟨#[41]⟩ (text_eq h41) w' hp
          have HK : Hid (KT w) := hK
          clear h hK hf hq ht ht2 hr h1 h2 hqf h41
          go_enter Tryz.func47, Tryz.ntmps47
          go_wp2_with fail
          refine hA.mono ?_
          rintro e w' ⟨rfl, hw⟩
          obtain rfl := hw.symm
          clear hA
          go_wp2_with fail
          refine hB.mono ?_
          rintro e w1 ⟨rfl, hp1, hg1⟩
          have hC1 := hC w1 (HK.out.grown hg1 h5) hp1
          clear hB hC hp1 c0 c1 f0 f1 t0 t1 t2
          go_wp2_with fail
          refine hC1.mono ?_
          rintro e w2 ⟨hg2, hp2, v, rfl, hv⟩
          have hM2 := hM w2 hp2
          have HV : Hid (KAt (New w1) w2 v k) := hv
          have hs1 := hg1.size
          clear hp2 hv hC1 hM
          go_wp2_with fail
          refine hM2.mono ?_
          rintro e w3 ⟨rfl, hp3, hg3⟩
          have HP3 : Hid (PS pb q3 c w3) := hp3
          clear hp3 hM2
          go_wp2_with fail
          go_ret
          exact Step.ok HR.out ((hg1.trans hg2).trans hg3) HP3.out ((HV.out.mono (New.mono hs1)).keep (Keeps.new hl hg3))
        · have HR : Hid (RP.oneKindP setOf c (m + 1) (t :: r) = .error ⟨refuseE 3 t3 c, t3.at_⟩) := by show _ = _; rw [RP.oneKindP, RP.hd, List.headD_cons, if_neg ht, if_pos ht2, List.tail_cons, hr]; simp only [RP.markP, if_neg h41, refuse_eq]
          have hM := fun w' hp => mark_no pb t3 q3 c ⟨#[41]⟩ (text_ne h41) w' hp
          have HK : Hid (KT w) := hK
          clear h hK hf hq ht ht2 hr h1 h2 hqf h41
          go_enter Tryz.func47, Tryz.ntmps47
          go_wp2_with fail
          refine hA.mono ?_
          rintro e w' ⟨rfl, hw⟩
          obtain rfl := hw.symm
          clear hA
          go_wp2_with fail
          refine hB.mono ?_
          rintro e w1 ⟨rfl, hp1, hg1⟩
          have hC1 := hC w1 (HK.out.grown hg1 h5) hp1
          clear hB hC hp1 c0 c1 f0 f1 t0 t1 t2
          go_wp2_with fail
          refine hC1.mono ?_
          rintro e w2 ⟨hg2, hp2, v, rfl, hv⟩
          have hM2 := hM w2 hp2
          clear hp2 hv hC1 hM
          go_wp2_with fail
          refine hM2.mono ?_
          rintro e w3 ⟨⟨b, rfl, k1, k2, k3⟩, hb3⟩
          go_wp2_with fail
          exact ⟨rfl, Step.map HR.out (hg1.trans hg2) (grown_below hb3 _) ⟨b, rfl, k1, k2, k3⟩⟩
    · have hB := accept_no pb t r c ⟨#[40]⟩ (text_ne ht2) w h
      have hS := setOrName_any pb t r c (hf.2 t (by simp)) w hK h
      obtain ⟨tb, off, cap, c0, c1, f0, f1, hc, hcm, t0, t1, t2, -, -, -⟩ := h.open
      have he : RP.oneKindP setOf c (m + 1) (t :: r) = RP.setOrNameP setOf c (t :: r) := by rw [RP.oneKindP, RP.hd, List.headD_cons, if_neg ht, if_neg ht2]
      cases hr : RP.setOrNameP setOf c (t :: r) with
      | error b =>
        have HR : Hid (RP.oneKindP setOf c (m + 1) (t :: r) = .error b) := he.trans hr
        rw [hr] at hS
        clear h hK hf ht ht2 hr h1 h2 he
        go_enter Tryz.func47, Tryz.ntmps47
        go_wp2_with fail
        refine hA.mono ?_
        rintro e w' ⟨rfl, hw⟩
        obtain rfl := hw.symm
        clear hA
        go_wp2_with fail
        refine hB.mono ?_
        rintro e w' ⟨rfl, hw⟩
        obtain rfl := hw.symm
        clear hB
        go_wp2_with fail
        refine hS.mono ?_
        rintro e w2 ⟨hg2, b', rfl, k1, k2, k3⟩
        go_wp2_with fail
        exact ⟨rfl, Step.map HR.out ⟨rfl, rfl, rfl, Nat.le_refl _, fun _ _ _ => rfl⟩ hg2 ⟨b', rfl, k1, k2, k3⟩⟩
      | ok x =>
        obtain ⟨k, q⟩ := x
        have HR : Hid (RP.oneKindP setOf c (m + 1) (t :: r) = .ok (k, q)) := he.trans hr
        rw [hr] at hS
        clear h hK hf ht ht2 hr h1 h2 he
        go_enter Tryz.func47, Tryz.ntmps47
        go_wp2_with fail
        refine hA.mono ?_
        rintro e w' ⟨rfl, hw⟩
        obtain rfl := hw.symm
        clear hA
        go_wp2_with fail
        refine hB.mono ?_
        rintro e w' ⟨rfl, hw⟩
        obtain rfl := hw.symm
        clear hB
        go_wp2_with fail
        refine hS.mono ?_
        rintro e w2 ⟨hg2, hp2, v, rfl, hv⟩
        have HP2 : Hid (PS pb q c w2) := hp2
        have HV : Hid (KAt (New w) w2 v k) := hv
        clear hp2 hv hS c0 c1 f0 f1 t0 t1 t2
        go_wp2_with fail
        go_ret
        exact Step.ok HR.out hg2 HP2.out HV.out

end Go.Proofs.YtjbmdnkpfkelmaaGreatDoor.Q
