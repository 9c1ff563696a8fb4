/- The contract of pattern; all four at every depth. -/
import Derived.Test.YtjbmdnkpfkelmaaGreatDoorParM
namespace Go.Proofs.YtjbmdnkpfkelmaaGreatDoor.Q
open Go.RowKit Go.Shelf

set_option maxHeartbeats 1000000 in
set_option maxRecDepth 100000 in
theorem pattern_zero : PatC 39 9 (fun c => RP.patP setOf c 0) := by
  intro pb c ts w hf h5 hK h
  dsimp only
  obtain ⟨t, r, rfl⟩ := hf.cons
  have hF := refuse_any 4 pb t r c w h
  have HR : Hid (RP.patP setOf c 0 (t :: r) = .error ⟨refuseE 4 t c, t.at_⟩) := by show _ = _; rw [RP.patP]; rfl
  clear h hf hK h5
  go_enter Tryz.func39, Tryz.ntmps39
  go_wp2_with fail
  refine hF.mono ?_
  rintro e w2 ⟨⟨b, rfl, k1, k2, k3⟩, hb2⟩
  go_wp2_with fail
  exact ⟨rfl, Step.map HR.out ⟨rfl, rfl, rfl, Nat.le_refl _, fun _ _ _ => rfl⟩ (grown_below hb2 _) ⟨b, rfl, k1, k2, k3⟩⟩

theorem Held.first {w0 w : World} {b : Nat} {p : RP.Pt} (h0 : w0.heap.size ≤ w.heap.size) (hp : PAt (New w0) w [.pointer (some ⟨b, 0, none⟩)] p) :
    Held w0 (w.alloc (.cells #[.pointer (some ⟨b, 0, none⟩)] 46)) (.slice (some ⟨w.heap.size, 0, none⟩) 1 1) [.pointer (some ⟨b, 0, none⟩)] [p] := by
  refine ⟨⟨rfl, .inr ⟨w.heap.size, 1, #[.pointer (some ⟨b, 0, none⟩)], rfl, h0, heap_alloc_new _ _, Nat.le_refl _, by unfold maxLen; omega, rfl, rfl⟩⟩, ?_, fun u hu => by simp at hu; exact ⟨b, hu⟩⟩
  have h1 : PAt (fun b => New w0 b ∧ (Value.slice (some ⟨w.heap.size, 0, none⟩) 1 1).ownBlock ≠ some b) w [.pointer (some ⟨b, 0, none⟩)] p :=
    PAt.mono (fun j hj hb => ⟨hb, fun e => by cases e; exact Nat.lt_irrefl _ hj⟩) hp
  exact ⟨_, [], rfl, PAt.keep (Keeps.alloc _ _ _) h1, rfl⟩

set_option maxHeartbeats 2000000 in
set_option maxRecDepth 100000 in
theorem alt_any (d : Nat) (hd : d ≤ 8) (P : Nat → List RP.Tok → RP.Res RP.Pt) (hE : ∀ c, RP.Leq (P c)) (hP : PatC 49 d P) : PatC 39 d (fun c => RP.altP (P c)) := by
  intro pb c ts w hf h5 hK h
  dsimp only
  have hl := h.lt
  have hlen := h.le
  have hC := hP pb c ts w hf h5 hK h
  have HK : Hid (KT w) := hK
  have HP : Hid (PatC 49 d P) := hP
  have HE : Hid (RP.Leq (P c)) := hE c
  have hd8 : (d : Int) ≤ 8 := by omega
  cases hr : P c ts with
  | error b =>
    have HR : Hid (RP.altP (P c) ts = .error b) := by show _ = _; rw [RP.altP, hr]
    rw [hr] at hC
    clear h hK hP hE hf hr
    go_enter Tryz.func39, Tryz.ntmps39
    go_wp2_with fail
    refine hC.mono ?_
    rintro e w2 ⟨hg2, b', rfl, k1, k2, k3⟩
    go_wp2_with fail
    exact ⟨rfl, Step.map HR.out ⟨rfl, rfl, rfl, Nat.le_refl _, fun _ _ _ => rfl⟩ hg2 ⟨b', rfl, k1, k2, k3⟩⟩
  | ok x =>
    obtain ⟨p0, q0⟩ := x
    have he0 := HE.out _ _ _ hf hr
    have HR : Hid (RP.altP (P c) ts = fin 5 (RP.altL (P c) q0.length [p0] q0)) := by show _ = _; rw [RP.altP, hr]; unfold fin; rfl
    rw [hr] at hC
    have hq0 := he0.1
    have hq1 := he0.2
    clear h hK hP hE hf hr he0
    go_enter Tryz.func39, Tryz.ntmps39
    go_wp2_with fail
    refine hC.mono ?_
    rintro e w1 ⟨hg1, hp1, v1, rfl, ⟨vb1, rfl⟩, hv1⟩
    have HH1 : Hid (Held w (w1.alloc (.cells #[.pointer (some ⟨vb1, 0, none⟩)] 46)) (.slice (some ⟨w1.heap.size, 0, none⟩) 1 1) [.pointer (some ⟨vb1, 0, none⟩)] [p0]) := Held.first hg1.size hv1
    have HP1 : Hid (PS pb q0 c (w1.alloc (.cells #[.pointer (some ⟨vb1, 0, none⟩)] 46))) := hp1.grown (World.grownBy_alloc _ _ _)
    have HG1 : Hid (w.grownBy (w1.alloc (.cells #[.pointer (some ⟨vb1, 0, none⟩)] 46)) (some pb)) := hg1.trans (World.grownBy_alloc _ _ _)
    clear hp1 hv1 hC hg1
    go_wp2_with fail
    go_loopw [5] (fun v wr => ∃ (vs : List Value) (ps : List RP.Pt) (s : List RP.Tok), RP.Fine s ∧ Held w wr v vs ps ∧ PS pb s c wr ∧ w.grownBy wr (some pb) ∧ vs.length + s.length ≤ ts.length + 1 ∧ RP.altP (P c) ts = fin 5 (RP.altL (P c) s.length ps s)) (fun _ wr => cnt pb wr)
    case atStart => exact ⟨_, _, q0, hq0, HH1.out, HP1.out, HG1.out, by simp; omega, HR.out⟩
    case round =>
      obtain ⟨vs, ps, s, hfs, hh, hp, hg, hle, hR⟩ := hrel
      obtain ⟨u, s, rfl⟩ := hfs.cons
      have hsr := hg.size
      have hcnt := hp.cnt
      obtain ⟨so, scp, rfl⟩ := own_slice hh.1
      by_cases hau : u.text = [124]
      · have hA := accept_yes pb u s c ⟨#[124]⟩ (text_eq hau) wr hp
        have hs : RP.Fine s := hfs.next (.inr (by rw [hau]; simp))
        have hlr := hp.lt
        have HKr : Hid (KT wr) := HK.out.grown hg h5
        have hC := fun w' hk hp' => HP.out pb c s w' hs h5 hk hp'
        cases hr : P c s with
        | error b =>
          have HR2 : Hid (RP.altP (P c) ts = .error b) := by show _ = _; rw [hR, List.length_cons, RP.altL, if_pos (by exact hau), List.tail_cons, hr]; rfl
          rw [hr] at hC
          clear hp hh hR hcnt hau hr
          go_wp2_with fail
          refine hA.mono ?_
          rintro e w2 ⟨rfl, hp2, hg2⟩
          have hC1 := hC w2 (HKr.out.grown hg2 h5) hp2
          clear hA hp2 hC
          go_wp2_with fail
          refine hC1.mono ?_
          rintro e w3 ⟨hg3, b', rfl, k1, k2, k3⟩
          go_wp2_with fail
          exact ⟨rfl, Step.map HR2.out (hg.trans hg2) hg3 ⟨b', rfl, k1, k2, k3⟩⟩
        | ok y =>
          obtain ⟨p, q⟩ := y
          have he := HE.out _ _ _ hs hr
          have HR2 : Hid (RP.altP (P c) ts = fin 5 (RP.altL (P c) q.length (ps ++ [p]) q)) := by
            show _ = _
            rw [hR, List.length_cons, RP.altL, if_pos (by exact hau), List.tail_cons, hr]
            exact congrArg _ (RP.altL_fuel HE.out _ _ _ _ he.1 (by have := he.2; omega) (Nat.le_refl _))
          rw [hr] at hC
          have hvb := fun j hj => (hh.1.lt j hj).2
          have HVB : Hid (∀ j, (Value.slice so vs.length scp).ownBlock = some j → j < wr.heap.size) := hvb
          have HH : Hid (Held w wr (.slice so vs.length scp) vs ps) := hh
          have hql := he.2
          have hqf := he.1
          have hle2 : vs.length + 1 + q.length ≤ ts.length + 1 := by simp only [List.length_cons] at hql hle; omega
          have hcl : q.length < (u :: s).length := by simp only [List.length_cons]; omega
          clear hp hh hR hau hr hvb he
          go_wp2_with fail
          refine hA.mono ?_
          rintro e w2 ⟨rfl, hp2, hg2⟩
          have hC1 := hC w2 (HKr.out.grown hg2 h5) hp2
          have hs2 := hg2.size
          clear hA hp2 hC
          go_wp2_with fail
          refine hC1.mono ?_
          rintro e w3 ⟨hg3, hp3, v3, rfl, ⟨vb3, rfl⟩, hv3⟩
          have hs3 := hg3.size
          have HP3 : Hid (PS pb q c w3) := hp3
          obtain ⟨v4, w4, hr4, hh4, hg4⟩ := ((HH.out.grown hl hg2).grown hl hg3).more 88 (by omega) hs3 (fun j hj => Nat.lt_of_lt_of_le (HVB.out j hj) hs2) hv3 (by omega)
          have hgA : w3.grownBy (w3.alloc (.cells #[.pointer (some ⟨vb3, 0, none⟩)] 46)) (some pb) := World.grownBy_alloc _ _ _
          have HG4 : Hid (w.grownBy w4 (some pb)) := by
            have h1 := ((hg.trans hg2).trans hg3).trans hgA
            refine ⟨hg4.os.trans h1.os, hg4.tape.trans h1.tape, hg4.output.trans h1.output, Nat.le_trans h1.size hg4.size, fun k hk hne => (hg4.block k (Nat.lt_of_lt_of_le hk h1.size) (fun e => ?_)).trans (h1.block k hk hne)⟩
            have := (HH.out.1.lt k e.symm).1
            omega
          have HP4 : Hid (PS pb q c w4) := ((HP3.out.grown (World.grownBy_alloc w3 (.cells #[.pointer (some ⟨vb3, 0, none⟩)] 46) none)).other hg4 fun j hj => by have := (HH.out.1.lt j hj).1; omega)
          have HR4 : Hid _ := hr4
          have HH4 : Hid (Held w w4 v4 (vs ++ [.pointer (some ⟨vb3, 0, none⟩)]) (ps ++ [p])) := hh4
          clear hp3 hv3 hC1 hh4 hg4 hgA hr4
          go_wp2_with (at_builtin; refine Lib.wpList_append_run _ rfl _ _ _ _ rfl _ _ rfl rfl _ _ HR4.out ?_)
          refine ⟨⟨_, _, q, hqf, HH4.out, HP4.out, HG4.out, by rw [List.length_append]; exact hle2, HR2.out⟩, ?_⟩
          rw [HP4.out.cnt, hcnt]
          exact hcl
      · have hA := accept_no pb u s c ⟨#[124]⟩ (text_ne hau) wr hp
        have HR2 : Hid (RP.altP (P c) ts = .ok (RP.togetherP 5 ps, u :: s)) := by show _ = _; rw [hR, List.length_cons, RP.altL, if_neg (by exact hau)]; rfl
        have hT := together_any 5 (.inr rfl) w wr hsr _ vs ps hh.row.1 hh.row.2 hh.2.2
        have HPr : Hid (PS pb (u :: s) c wr) := hp
        clear hp hh hR hcnt hau
        go_wp2_with fail
        refine hA.mono ?_
        rintro e w' ⟨rfl, hw⟩
        obtain rfl := hw.symm
        clear hA
        go_wp2_with fail
        refine hT.mono ?_
        rintro e w3 ⟨⟨v, rfl, ⟨vb, rfl⟩, hv⟩, hg3⟩
        have HV : Hid (PAt (New w) w3 [.pointer (some ⟨vb, 0, none⟩)] (RP.togetherP 5 ps)) := hv
        clear hv hT
        go_wp2_with fail
        go_ret
        exact Step.ok HR2.out (hg.trans ⟨hg3.os, hg3.tape, hg3.output, hg3.size, fun k hk _ => hg3.block k hk (by simp)⟩) (HPr.out.grown hg3) ⟨⟨_, rfl⟩, HV.out⟩

/-- A pattern, at every depth. -/
theorem pattern_any : ∀ (m d : Nat), d + m = 9 → PatC 39 d (fun c => RP.patP setOf c m) := by
  intro m
  induction m with
  | zero => intro d hd; obtain rfl : d = 9 := by omega
            exact pattern_zero
  | succ m ih =>
    intro d hd
    have h1 := unit_any d m (by omega) (ih (d + 1) (by omega))
    have h2 := part_any d m (by omega) h1
    have h3 := row_any d _ (fun c => RP.partP_fine (RP.patP_fine m) m) h2
    exact alt_any d (by omega) _ (fun c => RP.rowP_fine (RP.partP_fine (RP.patP_fine m) m)) h3

end Go.Proofs.YtjbmdnkpfkelmaaGreatDoor.Q
