/- The contract of row. -/
import Derived.Test.YtjbmdnkpfkelmaaGreatDoorParL
import Derived.Lib.AppendZeros
namespace Go.Proofs.YtjbmdnkpfkelmaaGreatDoor.Q
open Go.RowKit Go.Shelf

/-- What is read of a row's or a pattern's list. -/
def fin (code : Nat) : RP.Res (List RP.Pt) → RP.Res RP.Pt
  | .error b => .error b
  | .ok (ps, r) => .ok (RP.togetherP code ps, r)

theorem PS.le {pb : Nat} {ts : List RP.Tok} {c : Nat} {w : World} (h : PS pb ts c w) : ts.length ≤ 1000000 := by
  obtain ⟨tb, off, cap, _, _, h1, h2, _⟩ := h
  omega

theorem PS.keep {pb : Nat} {ts : List RP.Tok} {c : Nat} {w w' : World} (h : PS pb ts c w) (hk : ∀ j, j ≤ pb → w'.heap[j]? = w.heap[j]?) : PS pb ts c w' := by
  obtain ⟨tb, off, cap, h1, h2, h3, h4, h5⟩ := h
  have hc : ∀ j k, j ≤ pb → w'.cell? ⟨j, k, none⟩ = w.cell? ⟨j, k, none⟩ := fun j k hj => World.cell?_of_block (a := ⟨j, k, none⟩) (hk j hj)
  refine ⟨tb, off, cap, (hk pb (Nat.le_refl _)).trans h1, h2, h3, h4, fun k hk' => ?_⟩
  rw [hc _ _ (by omega), hc _ _ (by omega), hc _ _ (by omega)]
  exact h5 k hk'

theorem PS.other {pb : Nat} {ts : List RP.Tok} {c : Nat} {w w' : World} {g : Option Nat} (h : PS pb ts c w) (hg : w.grownBy w' g) (hn : ∀ j, g = some j → pb < j) : PS pb ts c w' :=
  h.keep fun j hj => hg.block j (by have := h.lt; omega) (fun e => by have := hn j e.symm; omega)

set_option maxHeartbeats 2000000 in
set_option maxRecDepth 100000 in
theorem row_any (d : Nat) (P : Nat → List RP.Tok → RP.Res RP.Pt) (hE : ∀ c, RP.Less (P c)) (hP : PatC 58 d P) : PatC 49 d (fun c => RP.rowP (P c)) := by
  intro pb c ts w hf h5 hK h
  dsimp only
  have hl := h.lt
  have hlen := h.le
  have HR : Hid (RP.rowP (P c) ts = fin 4 (RP.rowL (P c) ts.length [] ts)) := by show _ = _; unfold RP.rowP fin; rfl
  have HK : Hid (KT w) := hK
  have HP : Hid (PatC 58 d P) := hP
  have HE : Hid (RP.Less (P c)) := hE c
  have HPS : Hid (PS pb ts c w) := h
  clear h hK hP hE
  go_enter Tryz.func49, Tryz.ntmps49
  go_wp2_with fail
  go_loopw [5] (fun v wr => ∃ (vs : List Value) (ps : List RP.Pt) (s : List RP.Tok), RP.Fine s ∧ Held w wr v vs ps ∧ PS pb s c wr ∧ w.grownBy wr (some pb) ∧ vs.length + s.length ≤ ts.length ∧ RP.rowP (P c) ts = fin 4 (RP.rowL (P c) s.length ps s)) (fun _ wr => cnt pb wr)
  case atStart => exact ⟨[], [], ts, hf, Held.nil _ _, HPS.out, ⟨rfl, rfl, rfl, Nat.le_refl _, fun _ _ _ => rfl⟩, by simp, HR.out⟩
  case round =>
    obtain ⟨vs, ps, s, hfs, hh, hp, hg, hle, hR⟩ := hrel
    obtain ⟨u, s, rfl⟩ := hfs.cons
    have hA := atUnit_any pb u s c (hfs.2 u (by simp)) wr hp
    have hsr := hg.size
    have hcnt := hp.cnt
    obtain ⟨so, scp, rfl⟩ := own_slice hh.1
    cases hau : RP.atUnit u with
    | false =>
      have HR2 : Hid (RP.rowP (P c) ts = .ok (RP.togetherP 4 ps, u :: s)) := by show _ = _; rw [hR, List.length_cons, RP.rowL, if_neg (by show ¬ RP.atUnit u = true; rw [hau]; simp)]; rfl
      have hT := together_any 4 (.inl rfl) w wr hsr _ vs ps hh.row.1 hh.row.2 hh.2.2
      have HPr : Hid (PS pb (u :: s) c wr) := hp
      rw [hau] at hA
      clear hp hh hR hcnt hau
      go_wp2_with fail
      refine hA.mono ?_
      rintro e w' ⟨rfl, hw⟩
      obtain rfl := hw.symm
      clear hA
      go_wp2_with fail
      refine hT.mono ?_
      rintro e w3 ⟨⟨v, rfl, ⟨vb, rfl⟩, hv⟩, hg3⟩
      have HV : Hid (PAt (New w) w3 [.pointer (some ⟨vb, 0, none⟩)] (RP.togetherP 4 ps)) := hv
      clear hv hT
      go_wp2_with fail
      go_ret
      exact Step.ok HR2.out (hg.trans ⟨hg3.os, hg3.tape, hg3.output, hg3.size, fun k hk _ => hg3.block k hk (by simp)⟩) (HPr.out.grown hg3) ⟨⟨_, rfl⟩, HV.out⟩
    | true =>
      have hC := HP.out pb c (u :: s) wr hfs h5 (HK.out.grown hg h5) hp
      have hlr := hp.lt
      rw [hau] at hA
      cases hr : P c (u :: s) with
      | error b =>
        have HR2 : Hid (RP.rowP (P c) ts = .error b) := by show _ = _; rw [hR, List.length_cons, RP.rowL, if_pos (by exact hau), hr]; rfl
        rw [hr] at hC
        clear hp hh hR hcnt hau hr
        go_wp2_with fail
        refine hA.mono ?_
        rintro e w' ⟨rfl, hw⟩
        obtain rfl := hw.symm
        clear hA
        go_wp2_with fail
        refine hC.mono ?_
        rintro e w3 ⟨hg3, b', rfl, k1, k2, k3⟩
        go_wp2_with fail
        exact ⟨rfl, Step.map HR2.out hg hg3 ⟨b', rfl, k1, k2, k3⟩⟩
      | ok y =>
        obtain ⟨p, q⟩ := y
        have he := HE.out _ _ _ hfs hr
        have HR2 : Hid (RP.rowP (P c) ts = fin 4 (RP.rowL (P c) q.length (ps ++ [p]) q)) := by
          show _ = _
          rw [hR, List.length_cons, RP.rowL, if_pos (by exact hau), hr]
          exact congrArg _ (RP.rowL_fuel HE.out _ _ _ _ he.1 (by have := he.2; simp at this; omega) (Nat.le_refl _))
        rw [hr] at hC
        have hvb := fun j hj => (hh.1.lt j hj).2
        have HVB : Hid (∀ j, (Value.slice so vs.length scp).ownBlock = some j → j < wr.heap.size) := hvb
        have HH : Hid (Held w wr (.slice so vs.length scp) vs ps) := hh
        have hql := he.2
        have hqf := he.1
        have hle2 : vs.length + 1 + q.length ≤ ts.length := by simp only [List.length_cons] at hql hle; omega
        clear hp hh hR hau hr hvb he
        go_wp2_with fail
        refine hA.mono ?_
        rintro e w' ⟨rfl, hw⟩
        obtain rfl := hw.symm
        clear hA
        go_wp2_with fail
        refine hC.mono ?_
        rintro e w3 ⟨hg3, hp3, v3, rfl, ⟨vb3, rfl⟩, hv3⟩
        have hs3 := hg3.size
        have HP3 : Hid (PS pb q c w3) := hp3
        obtain ⟨v4, w4, hr4, hh4, hg4⟩ := (HH.out.grown hl hg3).more 88 hsr hs3 HVB.out hv3 (by omega)
        have hgA : w3.grownBy (w3.alloc (.cells #[.pointer (some ⟨vb3, 0, none⟩)] 46)) (some pb) := World.grownBy_alloc _ _ _
        have HG4 : Hid (w.grownBy w4 (some pb)) := by
          have h1 := (hg.trans hg3).trans hgA
          refine ⟨hg4.os.trans h1.os, hg4.tape.trans h1.tape, hg4.output.trans h1.output, Nat.le_trans h1.size hg4.size, fun k hk hne => (hg4.block k (Nat.lt_of_lt_of_le hk h1.size) (fun e => ?_)).trans (h1.block k hk hne)⟩
          have := (HH.out.1.lt k e.symm).1
          omega
        have HP4 : Hid (PS pb q c w4) := ((HP3.out.grown (World.grownBy_alloc w3 (.cells #[.pointer (some ⟨vb3, 0, none⟩)] 46) none)).other hg4 fun j hj => by have := (HH.out.1.lt j hj).1; omega)
        have HR4 : Hid _ := hr4
        have HH4 : Hid (Held w w4 v4 (vs ++ [.pointer (some ⟨vb3, 0, none⟩)]) (ps ++ [p])) := hh4
        clear hp3 hv3 hC hh4 hg4 hgA hr4
        go_wp2_with (at_builtin; refine Lib.wpList_append_run _ rfl _ _ _ _ rfl _ _ rfl rfl _ _ HR4.out ?_)
        refine ⟨⟨_, _, q, hqf, HH4.out, HP4.out, HG4.out, by rw [List.length_append]; exact hle2, HR2.out⟩, ?_⟩
        rw [HP4.out.cnt, hcnt]
        exact hql

end Go.Proofs.YtjbmdnkpfkelmaaGreatDoor.Q
