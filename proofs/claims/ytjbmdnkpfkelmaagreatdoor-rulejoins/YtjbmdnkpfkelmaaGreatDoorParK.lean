/- The contract of part. -/
import Derived.Test.YtjbmdnkpfkelmaaGreatDoorParJ
namespace Go.Proofs.YtjbmdnkpfkelmaaGreatDoor.Q
open Go.RowKit Go.Shelf

theorem row_made {w W : World} (v : Value) (h : w.heap.size ≤ W.heap.size) : Row (New w) (W.alloc (.cells #[v] 46)) 46 1 (.slice (some ⟨W.heap.size, 0, none⟩) 1 1) 1 [v] :=
  ⟨⟨rfl, .inr ⟨W.heap.size, 1, #[v], rfl, Nat.zero_le _, heap_alloc_new _ _, Nat.le_refl _, by unfold maxLen; omega, rfl, rfl⟩⟩, fun j hj => by cases hj; exact h⟩

set_option maxHeartbeats 2000000 in
set_option maxRecDepth 100000 in
theorem part_any (d m : Nat) (hd : d + m = 8) (hU : PatC 62 d (fun c => RP.unitP setOf c (RP.patP setOf c m))) : PatC 58 d (fun c => RP.partP setOf c (RP.patP setOf c m) m) := by
  intro pb c ts w hf h5 hK h
  dsimp only
  have hl := h.lt
  have hC := hU pb c ts w hf h5 hK h
  dsimp only at hC
  cases hr : RP.unitP setOf c (RP.patP setOf c m) ts with
  | error b =>
    have HR : Hid (RP.partP setOf c (RP.patP setOf c m) m ts = .error b) := by show _ = _; rw [RP.partP, hr]
    rw [hr] at hC
    clear h hK hf hr hU
    go_enter Tryz.func58, Tryz.ntmps58
    go_wp2_with fail
    refine hC.mono ?_
    rintro e w2 ⟨hg2, b', rfl, k1, k2, k3⟩
    go_wp2_with fail
    exact ⟨rfl, Step.map HR.out ⟨rfl, rfl, rfl, Nat.le_refl _, fun _ _ _ => rfl⟩ hg2 ⟨b', rfl, k1, k2, k3⟩⟩
  | ok x =>
    obtain ⟨k, q⟩ := x
    have hqf := (RP.unitP_fine (RP.patP_fine m) _ _ _ hf hr).1
    have HR : Hid (RP.partP setOf c (RP.patP setOf c m) m ts = RP.tLoop c m k q) := by show _ = _; rw [RP.partP, hr]
    rw [hr] at hC
    have HK : Hid (KT w) := hK
    clear h hK hf hr hU
    go_enter Tryz.func58, Tryz.ntmps58
    go_wp2_with fail
    refine hC.mono ?_
    rintro e w2 ⟨hg2, hp2, v, rfl, ⟨vb, rfl⟩, hv⟩
    have HP2 : Hid (PS pb q c w2) := hp2
    have HV : Hid (PAt (New w) w2 [.pointer (some ⟨vb, 0, none⟩)] k) := hv
    clear hp2 hv hC
    go_wp2_with fail
    go_loopw [1, 5] (fun i v wr => ∃ (dd mm : Nat) (xx : RP.Pt) (s : List RP.Tok), dd + mm = 8 ∧ RP.Fine s ∧ i = .int .i64 dd ∧ IsPtr v ∧ PAt (New w) wr [v] xx ∧ PS pb s c wr ∧ w.grownBy wr (some pb) ∧ RP.partP setOf c (RP.patP setOf c m) m ts = RP.tLoop c mm xx s) (fun _ _ wr => cnt pb wr)
    case atStart => exact ⟨d, m, k, q, hd, hqf, rfl, ⟨_, rfl⟩, HV.out, HP2.out, hg2, HR.out⟩
    case round =>
      obtain ⟨dd, mm, xx, s, hdm, hfs, rfl, ⟨vb2, rfl⟩, hpv, hp, hg, hR⟩ := hrel
      obtain ⟨u, s, rfl⟩ := hfs.cons
      have hT := times_any pb u s c hfs wr hp
      have hcnt := hp.cnt
      have hlr := hp.lt
      have hsr := hg.size
      have HPV : Hid (PAt (New w) wr [.pointer (some ⟨vb2, 0, none⟩)] xx) := hpv
      cases ht : RP.timesP c (u :: s) with
      | error b =>
        have HR2 : Hid (RP.partP setOf c (RP.patP setOf c m) m ts = .error b) := by show _ = _; rw [hR]; cases mm <;> rw [RP.tLoop, ht]
        rw [ht] at hT
        clear hp hpv hR ht hcnt
        go_wp2_with fail
        refine hT.mono ?_
        rintro e w3 ⟨hg3, b', rfl, k1, k2, k3⟩
        go_wp2_with fail
        exact ⟨rfl, Step.map HR2.out hg hg3 ⟨b', rfl, k1, k2, k3⟩⟩
      | ok y =>
        obtain ⟨y, q2⟩ := y
        have hfq := RP.timesP_fine hfs ht
        rw [ht] at hT
        cases y with
        | none =>
          have HR2 : Hid (RP.partP setOf c (RP.patP setOf c m) m ts = .ok (xx, q2)) := by show _ = _; rw [hR]; cases mm <;> rw [RP.tLoop, ht]
          clear hp hpv hR ht hcnt
          go_wp2_with fail
          refine hT.mono ?_
          rintro e w3 ⟨hg3, hp3, v3, rfl, rfl⟩
          have HP3 : Hid (PS pb q2 c w3) := hp3
          unfold timesV
          clear hp3 hT
          go_wp2_with fail
          go_ret
          exact Step.ok HR2.out (hg.trans hg3) HP3.out ⟨⟨_, rfl⟩, HPV.out.keep (Keeps.new hl hg3)⟩
        | some y =>
          obtain ⟨lo, hi⟩ := y
          obtain ⟨u2, s2, rfl⟩ := hfq.1.cons
          have hql := hfq.2.2 (by simp)
          have hfq1 := hfq.1
          cases mm with
          | zero =>
            obtain rfl : dd = 8 := by omega
            have HR2 : Hid (RP.partP setOf c (RP.patP setOf c m) m ts = .error ⟨refuseE 4 u2 c, u2.at_⟩) := by show _ = _; rw [hR, RP.tLoop, ht]; rfl
            clear hp hpv hR ht hcnt hfq
            go_wp2_with fail
            refine hT.mono ?_
            rintro e w3 ⟨hg3, hp3, v3, rfl, rfl⟩
            have hF := refuse_any 4 pb u2 s2 c w3 hp3
            unfold timesV
            clear hp3 hT
            go_wp2_with fail
            refine hF.mono ?_
            rintro e w4 ⟨⟨b, rfl, k1, k2, k3⟩, hb4⟩
            go_wp2_with fail
            exact ⟨rfl, Step.map HR2.out (hg.trans hg3) (grown_below hb4 _) ⟨b, rfl, k1, k2, k3⟩⟩
          | succ mm =>
            have HR2 : Hid (RP.partP setOf c (RP.patP setOf c m) m ts = RP.tLoop c mm (.many xx lo hi) (u2 :: s2)) := by show _ = _; rw [hR, RP.tLoop, ht]
            have hdd : (dd : Int) ≤ 7 := by omega
            clear hp hpv hR ht hfq
            go_wp2_with fail
            refine hT.mono ?_
            rintro e w3 ⟨hg3, hp3, v3, rfl, rfl⟩
            have HP3 : Hid (PS pb (u2 :: s2) c w3) := hp3
            have hs3 := hg3.size
            unfold timesV
            clear hp3 hT
            go_wp2_with fail
            have hp4 : PS pb (u2 :: s2) c ((w3.alloc (.cells #[.pointer (some ⟨vb2, 0, none⟩)] 46)).alloc (.cells #[.int .i64 6, .pointer none, .slice (some ⟨w3.heap.size, 0, none⟩) 1 1, .int .i64 lo, .int .i64 hi] 94)) := (HP3.out.grown (World.grownBy_alloc _ _ _)).grown (World.grownBy_alloc _ _ _)
            have hv3 : PAt (New w) w3 [.pointer (some ⟨vb2, 0, none⟩)] xx := HPV.out.keep (Keeps.new hl hg3)
            refine ⟨⟨dd + 1, mm, .many xx lo hi, u2 :: s2, by omega, hfq1, by push_cast; rfl, ⟨_, rfl⟩, ?_, hp4, ((hg.trans hg3).trans (World.grownBy_alloc _ _ _)).trans (World.grownBy_alloc _ _ _), HR2.out⟩, ?_⟩
            · refine ⟨w3.heap.size + 1, _, _, rfl, (by unfold New; omega), ?_, (row_made _ (by omega)).keep (Keeps.alloc _ _ _), (hv3.keep (Keeps.alloc _ _ _)).keep (Keeps.alloc _ _ _)⟩
              have := heap_alloc_new (w3.alloc (.cells #[.pointer (some ⟨vb2, 0, none⟩)] 46)) (.cells #[.int .i64 6, .pointer none, .slice (some ⟨w3.heap.size, 0, none⟩) 1 1, .int .i64 lo, .int .i64 hi] 94)
              simpa using this
            · rw [hp4.cnt, hcnt]
              exact hql

end Go.Proofs.YtjbmdnkpfkelmaaGreatDoor.Q
