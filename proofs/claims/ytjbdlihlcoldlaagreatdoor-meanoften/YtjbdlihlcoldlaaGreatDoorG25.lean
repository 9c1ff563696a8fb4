/- The contract of row. -/
import Derived.Test.YtjbdlihlcoldlaaGreatDoorG24
import Derived.Lib.AppendZeros
import Derived.Test.YtjbdlihlcoldlaaGreatDoorG00
namespace Go.Proofs.YtjbdlihlcoldlaaGreatDoor.Q
open Go.RowKit Go.Shelf

/-- What is read of a row's or a pattern's list. -/
def fin (code : Nat) : RP.Res (List RP.Pt) → RP.Res RP.Pt
  | .error b => .error b
  | .ok (ps, r) => .ok (RP.togetherP code ps, r)

theorem PS.le {pb : Nat} {ts : List RP.Tok} {c : Nat} {w : World} (h : PS pb ts c w) : ts.length ≤ 1000000 := by
  obtain ⟨tb, off, cap, _, _, h1, h2, _⟩ := h
  omega

theorem PS.keep {pb : Nat} {ts : List RP.Tok} {c : Nat} {w w' : World} (h : PS pb ts c w) (hk : ∀ j, j ≤ pb → w'.heap[j]? = w.heap[j]?) : PS pb ts c w' := by
  obtain ⟨tb, off, cap, h1, h2, h3, h4, h5⟩ := h
  have hc : ∀ j k, j ≤ pb → w'.cell? ⟨j, k, none⟩ = w.cell? ⟨j, k, none⟩ := fun j k hj => World.cell?_of_block (a := ⟨j, k, none⟩) (hk j hj)
  refine ⟨tb, off, cap, (hk pb (Nat.le_refl _)).trans h1, h2, h3, h4, fun k hk' => ?_⟩
  rw [hc _ _ (by omega), hc _ _ (by omega), hc _ _ (by omega)]
  exact h5 k hk'

theorem PS.other {pb : Nat} {ts : List RP.Tok} {c : Nat} {w w' : World} {g : Option Nat} (h : PS pb ts c w) (hg : w.grownBy w' g) (hn : ∀ j, g = some j → pb < j) : PS pb ts c w' :=
  h.keep fun j hj => hg.block j (by have := h.lt; omega) (fun e => by have := hn j e.symm; omega)

set_option maxHeartbeats 2000000 in
set_option maxRecDepth 100000 in
theorem row_any (d : Nat) (P : Nat → List RP.Tok → RP.Res RP.Pt) (hE : ∀ c, RP.Less (P c)) (hP : PatC 218 d P) : PatC 203 d (fun c => RP.rowP (P c)) := by
  intro pb c ts w hf h5 hK h
  dsimp only
  have hl := h.lt
  have hlen := h.le
  have HR : Hid (RP.rowP (P c) ts = fin 4 (RP.rowL (P c) ts.length [] ts)) := by show _ = _; unfold RP.rowP fin; rfl
  have HK : Hid (KT w) := hK
  have HP : Hid (PatC 218 d P) := hP
  have HE : Hid (RP.Less (P c)) := hE c
  have HPS : Hid (PS pb ts c w) := h
  clear h hK hP hE
  go_enter Tryz.func203, Tryz.ntmps203
  go_wp2_with fail
  go_loopw [5] (fun v wr => ∃ (vs : List Value) (ps : List RP.Pt) (s : List RP.Tok), RP.Fine s ∧ Held w wr v vs ps ∧ PS pb s c wr ∧ w.grownBy wr (some pb) ∧ vs.length + s.length ≤ ts.length ∧ RP.rowP (P c) ts = fin 4 (RP.rowL (P c) s.length ps s)) (fun _ wr => cnt pb wr)
  case atStart => exact ⟨[], [], ts, hf, Held.nil _ _, HPS.out, ⟨rfl, rfl, rfl, Nat.le_refl _, fun _ _ _ => rfl⟩, by simp, HR.out⟩
  case round =>
    obtain ⟨vs, ps, s, hfs, hh, hp, hg, hle, hR⟩ := hrel
    obtain ⟨u, s, rfl⟩ := hfs.cons
    have hA := atUnit_any pb u s c (hfs.2 u (by simp)) wr hp
    have hsr := hg.size
    have hcnt := hp.cnt
    obtain ⟨so, scp, rfl⟩ := own_slice hh.1
    cases hau : RP.atUnit u with
    | false =>
      have HR2 : Hid (RP.rowP (P c) ts = .ok (RP.togetherP 4 ps, u :: s)) := by show _ = _; rw [hR, List.length_cons, RP.rowL, if_neg (by show ¬ RP.atUnit u = true; rw [hau]; simp)]; rfl
      have hT := together_any 4 (.inl rfl) w wr hsr _ vs ps hh.row.1 hh.row.2 hh.2.2
      have HPr : Hid (PS pb (u :: s) c wr) := hp
      rw [hau] at hA
      clear hp hh hR hcnt hau
      go_wp2_with fail
      refine hA.mono ?_
      rintro e w' ⟨rfl, hw⟩
      obtain rfl := hw.symm
      clear hA
      go_wp2_with fail
      refine hT.mono ?_
      rintro e w3 ⟨⟨v, rfl, ⟨vb, rfl⟩, hv⟩, hg3⟩
      have HV : Hid (PAt (New w) w3 [.pointer (some ⟨vb, 0, none⟩)] (RP.togetherP 4 ps)) := hv
      clear hv hT
      go_wp2_with fail
      go_ret
      exact Step.ok HR2.out (hg.trans ⟨hg3.os, hg3.tape, hg3.output, hg3.size, fun k hk _ => hg3.block k hk (by simp)⟩) (HPr.out.grown hg3) ⟨⟨_, rfl⟩, HV.out⟩
    | true =>
      have hC := HP.out pb c (u :: s) wr hfs h5 (HK.out.grown hg h5) hp
      have hlr := hp.lt
      rw [hau] at hA
      cases hr : P c (u :: s) with
      | error b =>
        have HR2 : Hid (RP.rowP (P c) ts = .error b) := by show _ = _; rw [hR, List.length_cons, RP.rowL, if_pos (by exact hau), hr]; rfl
        rw [hr] at hC
        clear hp hh hR hcnt hau hr
        go_wp2_with fail
        refine hA.mono ?_
        rintro e w' ⟨rfl, hw⟩
        obtain rfl := hw.symm
        clear hA
        go_wp2_with fail
        refine hC.mono ?_
        rintro e w3 ⟨hg3, b', rfl, k1, k2, k3⟩
        go_wp2_with fail
        exact ⟨rfl, Step.map HR2.out hg hg3 ⟨b', rfl, k1, k2, k3⟩⟩
      | ok y =>
        obtain ⟨p, q⟩ := y
        have he := HE.out _ _ _ hfs hr
        have HR2 : Hid (RP.rowP (P c) ts = fin 4 (RP.rowL (P c) q.length (ps ++ [p]) q)) := by
          show _ = _
          rw [hR, List.length_cons, RP.rowL, if_pos (by exact hau), hr]
          exact congrArg _ (RP.rowL_fuel HE.out _ _ _ _ he.1 (by have := he.2; simp at this; omega) (Nat.le_refl _))
        rw [hr] at hC
        have hvb := fun j hj => (hh.1.lt j hj).2
        have HVB : Hid (∀ j, (Value.slice so vs.length scp).ownBlock = some j → j < wr.heap.size) := hvb
        have HH : Hid (Held w wr (.slice so vs.length scp) vs ps) := hh
        have hql := he.2
        have hqf := he.1
        have hle2 : vs.length + 1 + q.length ≤ ts.length := by simp only [List.length_cons] at hql hle; omega
        clear hp hh hR hau hr hvb he
        go_wp2_with fail
        refine hA.mono ?_
        rintro e w' ⟨rfl, hw⟩
        obtain rfl := hw.symm
        clear hA
        go_wp2_with fail
        refine hC.mono ?_
        rintro e w3 ⟨hg3, hp3, v3, rfl, ⟨vb3, rfl⟩, hv3⟩
        have hs3 := hg3.size
        have HP3 : Hid (PS pb q c w3) := hp3
        obtain ⟨v4, w4, hr4, hh4, hg4⟩ := (HH.out.grown hl hg3).more 37 hsr hs3 HVB.out hv3 (by omega)
        have hgA : w3.grownBy (w3.alloc (.cells #[.pointer (some ⟨vb3, 0, none⟩)] 35)) (some pb) := World.grownBy_alloc _ _ _
        have HG4 : Hid (w.grownBy w4 (some pb)) := by
          have h1 := (hg.trans hg3).trans hgA
          refine ⟨hg4.os.trans h1.os, hg4.tape.trans h1.tape, hg4.output.trans h1.output, Nat.le_trans h1.size hg4.size, fun k hk hne => (hg4.block k (Nat.lt_of_lt_of_le hk h1.size) (fun e => ?_)).trans (h1.block k hk hne)⟩
          have := (HH.out.1.lt k e.symm).1
          omega
        have HP4 : Hid (PS pb q c w4) := ((HP3.out.grown (World.grownBy_alloc w3 (.cells #[.pointer (some ⟨vb3, 0, none⟩)] 35) none)).other hg4 fun j hj => by have := (HH.out.1.lt j hj).1; omega)
        have HR4 : Hid _ := hr4
        have HH4 : Hid (Held w w4 v4 (vs ++ [.pointer (some ⟨vb3, 0, none⟩)]) (ps ++ [p])) := hh4
        clear hp3 hv3 hC hh4 hg4 hgA hr4
        go_wp2_with (at_builtin; refine Lib.wpList_append_run _ rfl _ _ _ _ rfl _ _ rfl rfl _ _ HR4.out ?_)
        refine ⟨⟨_, _, q, hqf, HH4.out, HP4.out, HG4.out, by rw [List.length_append]; exact hle2, HR2.out⟩, ?_⟩
        rw [HP4.out.cnt, hcnt]
        exact hql

end Go.Proofs.YtjbdlihlcoldlaaGreatDoor.Q

namespace Go.Proofs.YtjbdlihlcoldlaaGreatDoor.Q
open Go.RowKit Go.Shelf

set_option maxHeartbeats 1000000 in
set_option maxRecDepth 100000 in
theorem pattern_zero : PatC 169 9 (fun c => RP.patP setOf c 0) := by
  intro pb c ts w hf h5 hK h
  dsimp only
  obtain ⟨t, r, rfl⟩ := hf.cons
  have hF := refuse_any 4 pb t r c w h
  have HR : Hid (RP.patP setOf c 0 (t :: r) = .error ⟨refuseE 4 t c, t.at_⟩) := by show _ = _; rw [RP.patP]; rfl
  clear h hf hK h5
  go_enter Tryz.func169, Tryz.ntmps169
  go_wp2_with fail
  refine hF.mono ?_
  rintro e w2 ⟨⟨b, rfl, k1, k2, k3⟩, hb2⟩
  go_wp2_with fail
  exact ⟨rfl, Step.map HR.out ⟨rfl, rfl, rfl, Nat.le_refl _, fun _ _ _ => rfl⟩ (grown_below hb2 _) ⟨b, rfl, k1, k2, k3⟩⟩

theorem Held.first {w0 w : World} {b : Nat} {p : RP.Pt} (h0 : w0.heap.size ≤ w.heap.size) (hp : PAt (New w0) w [.pointer (some ⟨b, 0, none⟩)] p) :
    Held w0 (w.alloc (.cells #[.pointer (some ⟨b, 0, none⟩)] 35)) (.slice (some ⟨w.heap.size, 0, none⟩) 1 1) [.pointer (some ⟨b, 0, none⟩)] [p] := by
  refine ⟨⟨rfl, .inr ⟨w.heap.size, 1, #[.pointer (some ⟨b, 0, none⟩)], rfl, h0, heap_alloc_new _ _, Nat.le_refl _, by unfold maxLen; omega, rfl, rfl⟩⟩, ?_, fun u hu => by simp at hu; exact ⟨b, hu⟩⟩
  have h1 : PAt (fun b => New w0 b ∧ (Value.slice (some ⟨w.heap.size, 0, none⟩) 1 1).ownBlock ≠ some b) w [.pointer (some ⟨b, 0, none⟩)] p :=
    PAt.mono (fun j hj hb => ⟨hb, fun e => by cases e; exact Nat.lt_irrefl _ hj⟩) hp
  exact ⟨_, [], rfl, PAt.keep (Keeps.alloc _ _ _) h1, rfl⟩

set_option maxHeartbeats 2000000 in
set_option maxRecDepth 100000 in
theorem alt_any (d : Nat) (hd : d ≤ 8) (P : Nat → List RP.Tok → RP.Res RP.Pt) (hE : ∀ c, RP.Leq (P c)) (hP : PatC 203 d P) : PatC 169 d (fun c => RP.altP (P c)) := by
  intro pb c ts w hf h5 hK h
  dsimp only
  have hl := h.lt
  have hlen := h.le
  have hC := hP pb c ts w hf h5 hK h
  have HK : Hid (KT w) := hK
  have HP : Hid (PatC 203 d P) := hP
  have HE : Hid (RP.Leq (P c)) := hE c
  have hd8 : (d : Int) ≤ 8 := by omega
  cases hr : P c ts with
  | error b =>
    have HR : Hid (RP.altP (P c) ts = .error b) := by show _ = _; rw [RP.altP, hr]
    rw [hr] at hC
    clear h hK hP hE hf hr
    go_enter Tryz.func169, Tryz.ntmps169
    go_wp2_with fail
    refine hC.mono ?_
    rintro e w2 ⟨hg2, b', rfl, k1, k2, k3⟩
    go_wp2_with fail
    exact ⟨rfl, Step.map HR.out ⟨rfl, rfl, rfl, Nat.le_refl _, fun _ _ _ => rfl⟩ hg2 ⟨b', rfl, k1, k2, k3⟩⟩
  | ok x =>
    obtain ⟨p0, q0⟩ := x
    have he0 := HE.out _ _ _ hf hr
    have HR : Hid (RP.altP (P c) ts = fin 5 (RP.altL (P c) q0.length [p0] q0)) := by show _ = _; rw [RP.altP, hr]; unfold fin; rfl
    rw [hr] at hC
    have hq0 := he0.1
    have hq1 := he0.2
    clear h hK hP hE hf hr he0
    go_enter Tryz.func169, Tryz.ntmps169
    go_wp2_with fail
    refine hC.mono ?_
    rintro e w1 ⟨hg1, hp1, v1, rfl, ⟨vb1, rfl⟩, hv1⟩
    have HH1 : Hid (Held w (w1.alloc (.cells #[.pointer (some ⟨vb1, 0, none⟩)] 35)) (.slice (some ⟨w1.heap.size, 0, none⟩) 1 1) [.pointer (some ⟨vb1, 0, none⟩)] [p0]) := Held.first hg1.size hv1
    have HP1 : Hid (PS pb q0 c (w1.alloc (.cells #[.pointer (some ⟨vb1, 0, none⟩)] 35))) := hp1.grown (World.grownBy_alloc _ _ _)
    have HG1 : Hid (w.grownBy (w1.alloc (.cells #[.pointer (some ⟨vb1, 0, none⟩)] 35)) (some pb)) := hg1.trans (World.grownBy_alloc _ _ _)
    clear hp1 hv1 hC hg1
    go_wp2_with fail
    go_loopw [5] (fun v wr => ∃ (vs : List Value) (ps : List RP.Pt) (s : List RP.Tok), RP.Fine s ∧ Held w wr v vs ps ∧ PS pb s c wr ∧ w.grownBy wr (some pb) ∧ vs.length + s.length ≤ ts.length + 1 ∧ RP.altP (P c) ts = fin 5 (RP.altL (P c) s.length ps s)) (fun _ wr => cnt pb wr)
    case atStart => exact ⟨_, _, q0, hq0, HH1.out, HP1.out, HG1.out, by simp; omega, HR.out⟩
    case round =>
      obtain ⟨vs, ps, s, hfs, hh, hp, hg, hle, hR⟩ := hrel
      obtain ⟨u, s, rfl⟩ := hfs.cons
      have hsr := hg.size
      have hcnt := hp.cnt
      obtain ⟨so, scp, rfl⟩ := own_slice hh.1
      by_cases hau : u.text = [124]
      · have hA := accept_yes pb u s c ⟨#[124]⟩ (text_eq hau) wr hp
        have hs : RP.Fine s := hfs.next (.inr (by rw [hau]; simp))
        have hlr := hp.lt
        have HKr : Hid (KT wr) := HK.out.grown hg h5
        have hC := fun w' hk hp' => HP.out pb c s w' hs h5 hk hp'
        cases hr : P c s with
        | error b =>
          have HR2 : Hid (RP.altP (P c) ts = .error b) := by show _ = _; rw [hR, List.length_cons, RP.altL, if_pos (by exact hau), List.tail_cons, hr]; rfl
          rw [hr] at hC
          clear hp hh hR hcnt hau hr
          go_wp2_with fail
          refine hA.mono ?_
          rintro e w2 ⟨rfl, hp2, hg2⟩
          have hC1 := hC w2 (HKr.out.grown hg2 h5) hp2
          clear hA hp2 hC
          go_wp2_with fail
          refine hC1.mono ?_
          rintro e w3 ⟨hg3, b', rfl, k1, k2, k3⟩
          go_wp2_with fail
          exact ⟨rfl, Step.map HR2.out (hg.trans hg2) hg3 ⟨b', rfl, k1, k2, k3⟩⟩
        | ok y =>
          obtain ⟨p, q⟩ := y
          have he := HE.out _ _ _ hs hr
          have HR2 : Hid (RP.altP (P c) ts = fin 5 (RP.altL (P c) q.length (ps ++ [p]) q)) := by
            show _ = _
            rw [hR, List.length_cons, RP.altL, if_pos (by exact hau), List.tail_cons, hr]
            exact congrArg _ (RP.altL_fuel HE.out _ _ _ _ he.1 (by have := he.2; omega) (Nat.le_refl _))
          rw [hr] at hC
          have hvb := fun j hj => (hh.1.lt j hj).2
          have HVB : Hid (∀ j, (Value.slice so vs.length scp).ownBlock = some j → j < wr.heap.size) := hvb
          have HH : Hid (Held w wr (.slice so vs.length scp) vs ps) := hh
          have hql := he.2
          have hqf := he.1
          have hle2 : vs.length + 1 + q.length ≤ ts.length + 1 := by simp only [List.length_cons] at hql hle; omega
          have hcl : q.length < (u :: s).length := by simp only [List.length_cons]; omega
          clear hp hh hR hau hr hvb he
          go_wp2_with fail
          refine hA.mono ?_
          rintro e w2 ⟨rfl, hp2, hg2⟩
          have hC1 := hC w2 (HKr.out.grown hg2 h5) hp2
          have hs2 := hg2.size
          clear hA hp2 hC
          go_wp2_with fail
          refine hC1.mono ?_
          rintro e w3 ⟨hg3, hp3, v3, rfl, ⟨vb3, rfl⟩, hv3⟩
          have hs3 := hg3.size
          have HP3 : Hid (PS pb q c w3) := hp3
          obtain ⟨v4, w4, hr4, hh4, hg4⟩ := ((HH.out.grown hl hg2).grown hl hg3).more 37 (by omega) hs3 (fun j hj => Nat.lt_of_lt_of_le (HVB.out j hj) hs2) hv3 (by omega)
          have hgA : w3.grownBy (w3.alloc (.cells #[.pointer (some ⟨vb3, 0, none⟩)] 35)) (some pb) := World.grownBy_alloc _ _ _
          have HG4 : Hid (w.grownBy w4 (some pb)) := by
            have h1 := ((hg.trans hg2).trans hg3).trans hgA
            refine ⟨hg4.os.trans h1.os, hg4.tape.trans h1.tape, hg4.output.trans h1.output, Nat.le_trans h1.size hg4.size, fun k hk hne => (hg4.block k (Nat.lt_of_lt_of_le hk h1.size) (fun e => ?_)).trans (h1.block k hk hne)⟩
            have := (HH.out.1.lt k e.symm).1
            omega
          have HP4 : Hid (PS pb q c w4) := ((HP3.out.grown (World.grownBy_alloc w3 (.cells #[.pointer (some ⟨vb3, 0, none⟩)] 35) none)).other hg4 fun j hj => by have := (HH.out.1.lt j hj).1; omega)
          have HR4 : Hid _ := hr4
          have HH4 : Hid (Held w w4 v4 (vs ++ [.pointer (some ⟨vb3, 0, none⟩)]) (ps ++ [p])) := hh4
          clear hp3 hv3 hC1 hh4 hg4 hgA hr4
          go_wp2_with (at_builtin; refine Lib.wpList_append_run _ rfl _ _ _ _ rfl _ _ rfl rfl _ _ HR4.out ?_)
          refine ⟨⟨_, _, q, hqf, HH4.out, HP4.out, HG4.out, by rw [List.length_append]; exact hle2, HR2.out⟩, ?_⟩
          rw [HP4.out.cnt, hcnt]
          exact hcl
      · have hA := accept_no pb u s c ⟨#[124]⟩ (text_ne hau) wr hp
        have HR2 : Hid (RP.altP (P c) ts = .ok (RP.togetherP 5 ps, u :: s)) := by show _ = _; rw [hR, List.length_cons, RP.altL, if_neg (by exact hau)]; rfl
        have hT := together_any 5 (.inr rfl) w wr hsr _ vs ps hh.row.1 hh.row.2 hh.2.2
        have HPr : Hid (PS pb (u :: s) c wr) := hp
        clear hp hh hR hcnt hau
        go_wp2_with fail
        refine hA.mono ?_
        rintro e w' ⟨rfl, hw⟩
        obtain rfl := hw.symm
        clear hA
        go_wp2_with fail
        refine hT.mono ?_
        rintro e w3 ⟨⟨v, rfl, ⟨vb, rfl⟩, hv⟩, hg3⟩
        have HV : Hid (PAt (New w) w3 [.pointer (some ⟨vb, 0, none⟩)] (RP.togetherP 5 ps)) := hv
        clear hv hT
        go_wp2_with fail
        go_ret
        exact Step.ok HR2.out (hg.trans ⟨hg3.os, hg3.tape, hg3.output, hg3.size, fun k hk _ => hg3.block k hk (by simp)⟩) (HPr.out.grown hg3) ⟨⟨_, rfl⟩, HV.out⟩

/-- A pattern, at every depth. -/
theorem pattern_any : ∀ (m d : Nat), d + m = 9 → PatC 169 d (fun c => RP.patP setOf c m) := by
  intro m
  induction m with
  | zero => intro d hd; obtain rfl : d = 9 := by omega
            exact pattern_zero
  | succ m ih =>
    intro d hd
    have h1 := unit_any d m (by omega) (ih (d + 1) (by omega))
    have h2 := part_any d m (by omega) h1
    have h3 := row_any d _ (fun c => RP.partP_fine (RP.patP_fine m) m) h2
    exact alt_any d (by omega) _ (fun c => RP.rowP_fine (RP.partP_fine (RP.patP_fine m) m)) h3

end Go.Proofs.YtjbdlihlcoldlaaGreatDoor.Q

namespace Go.Proofs.YtjbdlihlcoldlaaGreatDoor.Q
open Go.RowKit Go.Shelf

theorem grown_loc {w a b : World} {pb n : Nat} (h1 : w.grownBy a (some pb)) (h2 : a.grownBy b (some n)) (hn : w.heap.size ≤ n) : w.grownBy b (some pb) :=
  ⟨h2.os.trans h1.os, h2.tape.trans h1.tape, h2.output.trans h1.output, Nat.le_trans h1.size h2.size, fun k hk hne => (h2.block k (Nat.lt_of_lt_of_le hk h1.size) (fun e => by cases e; omega)).trans (h1.block k hk hne)⟩

theorem loc_cell {w : World} {b k : Nat} {vs : Array Value} {ty : TypeId} {v : Value} (h : w.heap[b]? = some (.cells vs ty)) (hk : vs[k]? = some v) : w.cell? ⟨b, k, none⟩ = some v := by
  simp [World.cell?, h, hk]

theorem loc_free {w : World} {b k : Nat} {vs : Array Value} {ty : TypeId} (h : w.heap[b]? = some (.cells vs ty)) : w.frozen? ⟨b, k, none⟩ = false := by
  simp [World.frozen?, h]

theorem grown_none {w w' : World} (h : w.grownBy w' none) (g : Option Nat) : w.grownBy w' g :=
  ⟨h.os, h.tape, h.output, h.size, fun k hk _ => h.block k hk (by simp)⟩

theorem size48 : (Tryz.prog.info? 50).map (·.size) = some 4 := by kernel_rfl

theorem row4_set {w : World} {g : Nat} {ty : TypeId} {p q r s : Value} (h : w.heap[g]? = some (.cells #[p, q, r, s] ty)) (a b c d : Value) :
    ((((w.setCell ⟨g, 0, none⟩ a).setCell ⟨g, 1, none⟩ b).setCell ⟨g, 2, none⟩ c).setCell ⟨g, 3, none⟩ d).heap[g]? = some (.cells #[a, b, c, d] ty) :=
  heap_setCell_same _ g 3 _ ty _ (heap_setCell_same _ g 2 _ ty _ (heap_setCell_same _ g 1 _ ty _ (heap_setCell_same w g 0 _ ty _ h)))

theorem grown_set4 (w : World) (g : Nat) (a b c d : Value) :
    w.grownBy ((((w.setCell ⟨g, 0, none⟩ a).setCell ⟨g, 1, none⟩ b).setCell ⟨g, 2, none⟩ c).setCell ⟨g, 3, none⟩ d) (some g) :=
  (((grown_set a).trans (grown_set b)).trans (grown_set c)).trans (grown_set d)

set_option maxHeartbeats 2000000 in
set_option maxRecDepth 100000 in
theorem rule_any (pb c : Nat) (ts : List RP.Tok) (w : World) (hf : RP.Fine ts) (h5 : 7 < pb) (hK : KT w) (h : PS pb ts c w) :
    Calls Tryz.prog 112 #[.pointer (some ⟨pb, 0, none⟩)] w (Step pb c w (RP.ruleP setOf c ts) fun x v w' => ∃ bv av, v = .agg #[.int .i64 x.at_, .bool x.brk, bv, av] ∧ IsPtr bv ∧ PAt (New w) w' [bv] x.before ∧ IsPtr av ∧ PAt (New w) w' [av] x.after) := by
  have hl := h.lt
  obtain ⟨t, r, rfl⟩ := hf.cons
  obtain ⟨tb, off, cap, c0, c1, f0, f1, hc, hcm, t0, t1, t2, htb, htp, -⟩ := h.open
  have HPS : Hid (PS pb (t :: r) c w) := h
  have HK : Hid (KT w) := hK
  clear h hK
  go_enter Tryz.func112, Tryz.ntmps112
  go_wp2_with fail
  have hgW : w.grownBy ((w.alloc (.cells #[.int .i64 0, .bool false, .pointer none, .pointer none] 50)).alloc (.cells #[.int .i64 t.at_, .bool false, .pointer none, .pointer none] 50)) none := (World.grownBy_alloc _ _ _).trans (World.grownBy_alloc _ _ _)
  have hL0 : ((w.alloc (.cells #[.int .i64 0, .bool false, .pointer none, .pointer none] 50)).alloc (.cells #[.int .i64 t.at_, .bool false, .pointer none, .pointer none] 50)).heap[w.heap.size]? = some (.cells #[.int .i64 0, .bool false, .pointer none, .pointer none] 50) := by
    rw [heap_alloc_old _ _ (by simp)]; exact heap_alloc_new _ _
  have hL1 : ((w.alloc (.cells #[.int .i64 0, .bool false, .pointer none, .pointer none] 50)).alloc (.cells #[.int .i64 t.at_, .bool false, .pointer none, .pointer none] 50)).heap[w.heap.size + 1]? = some (.cells #[.int .i64 t.at_, .bool false, .pointer none, .pointer none] 50) := by
    have := heap_alloc_new (w.alloc (.cells #[.int .i64 0, .bool false, .pointer none, .pointer none] 50)) (.cells #[.int .i64 t.at_, .bool false, .pointer none, .pointer none] 50)
    simpa using this
  have hsz : ((w.alloc (.cells #[.int .i64 0, .bool false, .pointer none, .pointer none] 50)).alloc (.cells #[.int .i64 t.at_, .bool false, .pointer none, .pointer none] 50)).heap.size = w.heap.size + 2 := by simp
  generalize hW1 : (w.alloc (.cells #[.int .i64 0, .bool false, .pointer none, .pointer none] 50)).alloc (.cells #[.int .i64 t.at_, .bool false, .pointer none, .pointer none] 50) = W1 at hgW hL0 hL1 hsz ⊢
  clear hW1 c0 c1 f0 f1 t0 t1 t2
  have hB := breaks_any pb t r c W1 (HPS.out.grown hgW)
  cases hb : RP.breaksP c (t :: r) with
  | error b =>
    rw [hb] at hB
    have HR : Hid (RP.ruleP setOf c (t :: r) = .error b) := by show _ = _; rw [RP.ruleP, hb]
    clear hb
    refine hB.mono ?_
    rintro e w1 ⟨hg1, b', rfl, k1, k2, k3⟩
    go_wp2_with fail
    exact ⟨rfl, Step.map HR.out (grown_none hgW _) hg1 ⟨b', rfl, k1, k2, k3⟩⟩
  | ok x =>
    obtain ⟨k, q⟩ := x
    rw [hb] at hB
    have hqf := (RP.breaksP_fine _ _ _ hf hb).1
    have HR1 : Hid (RP.breaksP c (t :: r) = .ok (k, q)) := hb
    clear hb
    refine hB.mono ?_
    rintro e w1 ⟨hg1, hp1, v, rfl, rfl⟩
    have hs1 := hg1.size
    have hM0 := (hg1.block w.heap.size (by omega) (fun e => by cases e; omega)).trans hL0
    have hM1 := (hg1.block (w.heap.size + 1) (by omega) (fun e => by cases e; omega)).trans hL1
    have g1 := loc_cell (k := 1) hM1 rfl
    have z1 := loc_free (k := 1) hM1
    have HP1 : Hid (PS pb q c w1) := hp1
    have HG1 : Hid (w.grownBy w1 (some pb)) := (grown_none hgW _).trans hg1
    clear hp1 hB hL0 hL1 hgW hg1
    go_wp2_with fail
    have hgS : w1.grownBy (w1.setCell ⟨w.heap.size + 1, 1, none⟩ (.bool k)) (some (w.heap.size + 1)) := grown_set _
    have hN1 : (w1.setCell ⟨w.heap.size + 1, 1, none⟩ (.bool k)).heap[w.heap.size + 1]? = some (.cells #[.int .i64 t.at_, .bool k, .pointer none, .pointer none] 50) := heap_setCell_same w1 _ 1 _ 50 _ hM1
    have hN0 : (w1.setCell ⟨w.heap.size + 1, 1, none⟩ (.bool k)).heap[w.heap.size]? = some (.cells #[.int .i64 0, .bool false, .pointer none, .pointer none] 50) := (hgS.block _ (by omega) (fun e => by simp at e)).trans hM0
    have hs2 : w.heap.size + 2 ≤ (w1.setCell ⟨w.heap.size + 1, 1, none⟩ (.bool k)).heap.size := by have := hgS.size; omega
    have HP2 : Hid (PS pb q c (w1.setCell ⟨w.heap.size + 1, 1, none⟩ (.bool k))) := HP1.out.other hgS fun j hj => by cases hj; omega
    have HG2 : Hid (w.grownBy (w1.setCell ⟨w.heap.size + 1, 1, none⟩ (.bool k)) (some pb)) := grown_loc HG1.out hgS (by omega)
    generalize hW2 : w1.setCell ⟨w.heap.size + 1, 1, none⟩ (.bool k) = W2 at hgS hN1 hN0 hs2 HP2 HG2 ⊢
    clear hW2 hgS hM0 hM1 g1 z1 HP1 HG1
    have hC := pattern_any 9 0 rfl pb c q W2 hqf h5 (HK.out.grown HG2.out h5) HP2.out
    dsimp only at hC
    cases hb2 : RP.patP setOf c 9 q with
    | error b =>
      rw [hb2] at hC
      have HR : Hid (RP.ruleP setOf c (t :: r) = .error b) := by show _ = _; rw [RP.ruleP, HR1.out]; dsimp only; rw [hb2]
      clear hb2
      refine hC.mono ?_
      rintro e w3 ⟨hg3, b', rfl, k1, k2, k3⟩
      go_wp2_with fail
      exact ⟨rfl, Step.map HR.out HG2.out hg3 ⟨b', rfl, k1, k2, k3⟩⟩
    | ok x =>
      obtain ⟨x, q2⟩ := x
      rw [hb2] at hC
      have hqf2 := (RP.patP_fine 9 _ _ _ hqf hb2).1
      have HR2 : Hid (RP.patP setOf c 9 q = .ok (x, q2)) := hb2
      clear hb2
      refine hC.mono ?_
      rintro e w3 ⟨hg3, hp3, v3, rfl, ⟨bb, rfl⟩, hv3⟩
      have hs3 := hg3.size
      have hM0 := (hg3.block w.heap.size (by omega) (fun e => by cases e; omega)).trans hN0
      have hM1 := (hg3.block (w.heap.size + 1) (by omega) (fun e => by cases e; omega)).trans hN1
      have g2 := loc_cell (k := 2) hM1 rfl
      have z2 := loc_free (k := 2) hM1
      have HP3 : Hid (PS pb q2 c w3) := hp3
      have HG3 : Hid (w.grownBy w3 (some pb)) := HG2.out.trans hg3
      have HV3 : Hid (PAt (New W2) w3 [.pointer (some ⟨bb, 0, none⟩)] x) := hv3
      clear hp3 hv3 hC hN0 hN1 hg3
      go_wp2_with fail
      have hgS : w3.grownBy (w3.setCell ⟨w.heap.size + 1, 2, none⟩ (.pointer (some ⟨bb, 0, none⟩))) (some (w.heap.size + 1)) := grown_set _
      have hN1 : (w3.setCell ⟨w.heap.size + 1, 2, none⟩ (.pointer (some ⟨bb, 0, none⟩))).heap[w.heap.size + 1]? = some (.cells #[.int .i64 t.at_, .bool k, .pointer (some ⟨bb, 0, none⟩), .pointer none] 50) := heap_setCell_same w3 _ 2 _ 50 _ hM1
      have hN0 : (w3.setCell ⟨w.heap.size + 1, 2, none⟩ (.pointer (some ⟨bb, 0, none⟩))).heap[w.heap.size]? = some (.cells #[.int .i64 0, .bool false, .pointer none, .pointer none] 50) := (hgS.block _ (by omega) (fun e => by simp at e)).trans hM0
      have hs4 : W2.heap.size ≤ (w3.setCell ⟨w.heap.size + 1, 2, none⟩ (.pointer (some ⟨bb, 0, none⟩))).heap.size := by have := hgS.size; omega
      have HP4 : Hid (PS pb q2 c (w3.setCell ⟨w.heap.size + 1, 2, none⟩ (.pointer (some ⟨bb, 0, none⟩)))) := HP3.out.other hgS fun j hj => by cases hj; omega
      have HG4 : Hid (w.grownBy (w3.setCell ⟨w.heap.size + 1, 2, none⟩ (.pointer (some ⟨bb, 0, none⟩))) (some pb)) := grown_loc HG3.out hgS (by omega)
      have HV4 : Hid (PAt (New W2) (w3.setCell ⟨w.heap.size + 1, 2, none⟩ (.pointer (some ⟨bb, 0, none⟩))) [.pointer (some ⟨bb, 0, none⟩)] x) := HV3.out.keep (Keeps.grown hgS fun b hb e => by cases e; unfold New at hb; omega)
      generalize hW4 : w3.setCell ⟨w.heap.size + 1, 2, none⟩ (.pointer (some ⟨bb, 0, none⟩)) = W4 at hgS hN1 hN0 hs4 HP4 HG4 HV4 ⊢
      clear hW4 hgS hM0 hM1 g2 z2 HP3 HG3 HV3
      obtain ⟨t5, q5, rfl⟩ := hqf2.cons
      by_cases h58 : t5.text = [58]
      · have hM := mark_yes pb t5 q5 c ⟨#[58]⟩ (text_eq h58) W4 HP4.out
        have hqf5 : RP.Fine q5 := hqf2.next (.inr (by rw [h58]; simp))
        have HR3 : Hid (RP.markP c [58] (t5 :: q5) = .ok q5) := by show _ = _; rw [RP.markP, if_pos h58]
        clear h58
        refine hM.mono ?_
        rintro e w5 ⟨rfl, hp5, hg5⟩
        have hs5 := hg5.size
        have hN0' := (hg5.block w.heap.size (by omega) (fun e => by cases e; omega)).trans hN0
        have hN1' := (hg5.block (w.heap.size + 1) (by omega) (fun e => by cases e; omega)).trans hN1
        have HP5 : Hid (PS pb q5 c w5) := hp5
        have HG5 : Hid (w.grownBy w5 (some pb)) := HG4.out.trans hg5
        have HV5 : Hid (PAt (New W2) w5 [.pointer (some ⟨bb, 0, none⟩)] x) := HV4.out.keep (Keeps.new (by omega) hg5)
        clear hp5 hM hN0 hN1 hg5
        go_wp2_with fail
        have hC := pattern_any 9 0 rfl pb c q5 w5 hqf5 h5 (HK.out.grown HG5.out h5) HP5.out
        dsimp only at hC
        cases hb6 : RP.patP setOf c 9 q5 with
        | error b =>
          rw [hb6] at hC
          have HR : Hid (RP.ruleP setOf c (t :: r) = .error b) := by show _ = _; rw [RP.ruleP, HR1.out]; dsimp only; rw [HR2.out]; dsimp only; rw [HR3.out]; dsimp only; rw [hb6]
          clear hb6
          refine hC.mono ?_
          rintro e w6 ⟨hg6, b', rfl, k1, k2, k3⟩
          go_wp2_with fail
          exact ⟨rfl, Step.map HR.out HG5.out hg6 ⟨b', rfl, k1, k2, k3⟩⟩
        | ok y =>
          obtain ⟨y, q6⟩ := y
          rw [hb6] at hC
          have hqf6 := (RP.patP_fine 9 _ _ _ hqf5 hb6).1
          have HR4 : Hid (RP.patP setOf c 9 q5 = .ok (y, q6)) := hb6
          clear hb6
          refine hC.mono ?_
          rintro e w6 ⟨hg6, hp6, v6, rfl, ⟨ab, rfl⟩, hv6⟩
          have hs6 := hg6.size
          have hM0 := (hg6.block w.heap.size (by omega) (fun e => by cases e; omega)).trans hN0'
          have hM1 := (hg6.block (w.heap.size + 1) (by omega) (fun e => by cases e; omega)).trans hN1'
          have g3 := loc_cell (k := 3) hM1 rfl
          have z3 := loc_free (k := 3) hM1
          have HP6 : Hid (PS pb q6 c w6) := hp6
          have HG6 : Hid (w.grownBy w6 (some pb)) := HG5.out.trans hg6
          have HV6 : Hid (PAt (New W2) w6 [.pointer (some ⟨bb, 0, none⟩)] x) := HV5.out.keep (Keeps.new (by omega) hg6)
          have HU6 : Hid (PAt (New W2) w6 [.pointer (some ⟨ab, 0, none⟩)] y) := hv6.mono (New.mono (by omega))
          clear hp6 hv6 hC hN0' hN1' hg6
          go_wp2_with fail
          have hgS : w6.grownBy (w6.setCell ⟨w.heap.size + 1, 3, none⟩ (.pointer (some ⟨ab, 0, none⟩))) (some (w.heap.size + 1)) := grown_set _
          have hN1 : (w6.setCell ⟨w.heap.size + 1, 3, none⟩ (.pointer (some ⟨ab, 0, none⟩))).heap[w.heap.size + 1]? = some (.cells #[.int .i64 t.at_, .bool k, .pointer (some ⟨bb, 0, none⟩), .pointer (some ⟨ab, 0, none⟩)] 50) := heap_setCell_same w6 _ 3 _ 50 _ hM1
          have hN0 : (w6.setCell ⟨w.heap.size + 1, 3, none⟩ (.pointer (some ⟨ab, 0, none⟩))).heap[w.heap.size]? = some (.cells #[.int .i64 0, .bool false, .pointer none, .pointer none] 50) := (hgS.block _ (by omega) (fun e => by simp at e)).trans hM0
          have hs7 : W2.heap.size ≤ (w6.setCell ⟨w.heap.size + 1, 3, none⟩ (.pointer (some ⟨ab, 0, none⟩))).heap.size := by have := hgS.size; omega
          have HP7 : Hid (PS pb q6 c (w6.setCell ⟨w.heap.size + 1, 3, none⟩ (.pointer (some ⟨ab, 0, none⟩)))) := HP6.out.other hgS fun j hj => by cases hj; omega
          have HG7 : Hid (w.grownBy (w6.setCell ⟨w.heap.size + 1, 3, none⟩ (.pointer (some ⟨ab, 0, none⟩))) (some pb)) := grown_loc HG6.out hgS (by omega)
          have hkS : Keeps (New W2) w6 (w6.setCell ⟨w.heap.size + 1, 3, none⟩ (.pointer (some ⟨ab, 0, none⟩))) := Keeps.grown hgS fun b hb e => by cases e; unfold New at hb; omega
          have HV7 := HV6.out.keep hkS
          have HU7 := HU6.out.keep hkS
          generalize hW7 : w6.setCell ⟨w.heap.size + 1, 3, none⟩ (.pointer (some ⟨ab, 0, none⟩)) = W7 at hgS hN1 hN0 hs7 HP7 HG7 HV7 HU7 hkS ⊢
          have HV8 : Hid (PAt (New W2) W7 [.pointer (some ⟨bb, 0, none⟩)] x) := HV7
          have HU8 : Hid (PAt (New W2) W7 [.pointer (some ⟨ab, 0, none⟩)] y) := HU7
          clear hW7 hgS hM0 hM1 g3 z3 HP6 HG6 HV6 HU6 HV7 HU7 hkS
          obtain ⟨t8, q8, rfl⟩ := hqf6.cons
          by_cases h59 : t8.text = [59]
          · have hM := mark_yes pb t8 q8 c ⟨#[59]⟩ (text_eq h59) W7 HP7.out
            have HR : Hid (RP.ruleP setOf c (t :: r) = .ok (⟨t.at_, k, x, y⟩, q8)) := by
              show _ = _
              rw [RP.ruleP, HR1.out]; dsimp only; rw [HR2.out]; dsimp only; rw [HR3.out]; dsimp only; rw [HR4.out]; dsimp only; rw [RP.markP, if_pos h59]; rfl
            clear h59
            refine hM.mono ?_
            rintro e w8 ⟨rfl, hp8, hg8⟩
            have hs8 := hg8.size
            have hN0' := (hg8.block w.heap.size (by omega) (fun e => by cases e; omega)).trans hN0
            have hN1' := (hg8.block (w.heap.size + 1) (by omega) (fun e => by cases e; omega)).trans hN1
            have HP8 : Hid (PS pb q8 c w8) := hp8
            have HG8 : Hid (w.grownBy w8 (some pb)) := HG7.out.trans hg8
            have HV9 : Hid (PAt (New W2) w8 [.pointer (some ⟨bb, 0, none⟩)] x) := HV8.out.keep (Keeps.new (by omega) hg8)
            have HU9 : Hid (PAt (New W2) w8 [.pointer (some ⟨ab, 0, none⟩)] y) := HU8.out.keep (Keeps.new (by omega) hg8)
            have a0 := loc_cell (k := 0) hN1' rfl
            have a1 := loc_cell (k := 1) hN1' rfl
            have a2 := loc_cell (k := 2) hN1' rfl
            have a3 := loc_cell (k := 3) hN1' rfl
            have b0 := loc_cell (k := 0) hN0' rfl
            have b1 := loc_cell (k := 1) hN0' rfl
            have b2 := loc_cell (k := 2) hN0' rfl
            have b3 := loc_cell (k := 3) hN0' rfl
            have z0 := loc_free (k := 0) hN0'
            have z1 := loc_free (k := 1) hN0'
            have z2 := loc_free (k := 2) hN0'
            have z3 := loc_free (k := 3) hN0'
            clear hp8 hM hN0 hN1 hg8
            go_wp2_with fail
            have hL := row4_set hN0' (.int .i64 t.at_) (.bool k) (.pointer (some ⟨bb, 0, none⟩)) (.pointer (some ⟨ab, 0, none⟩))
            have hgF := grown_set4 w8 w.heap.size (.int .i64 t.at_) (.bool k) (.pointer (some ⟨bb, 0, none⟩)) (.pointer (some ⟨ab, 0, none⟩))
            have hkF := Keeps.grown (ok := New W2) hgF fun b hb e => by cases e; unfold New at hb; omega
            refine bodyPost_ret (results_cell_row rfl _ _ w.heap.size 50 #[_, _, _, _] _ _ rfl hL Tryz.underlying50 rfl size48) rfl ?_
            exact Step.ok HR.out (grown_loc HG8.out hgF (Nat.le_refl _)) (HP8.out.other hgF fun j hj => by cases hj; exact hl) ⟨_, _, rfl, ⟨_, rfl⟩, PAt.mono (New.mono (by omega)) (HV9.out.keep hkF), ⟨_, rfl⟩, PAt.mono (New.mono (by omega)) (HU9.out.keep hkF)⟩
          · have hM := mark_no pb t8 q8 c ⟨#[59]⟩ (text_ne h59) W7 HP7.out
            have HR : Hid (RP.ruleP setOf c (t :: r) = .error ⟨refuseE 3 t8 c, t8.at_⟩) := by
              show _ = _
              rw [RP.ruleP, HR1.out]; dsimp only; rw [HR2.out]; dsimp only; rw [HR3.out]; dsimp only; rw [HR4.out]; dsimp only; rw [RP.markP, if_neg h59, refuse_eq]
            clear h59
            refine hM.mono ?_
            rintro e w8 ⟨⟨b', rfl, k1, k2, k3⟩, hb8⟩
            go_wp2_with fail
            exact ⟨rfl, Step.map HR.out HG7.out (grown_below hb8 _) ⟨b', rfl, k1, k2, k3⟩⟩
      · have hM := mark_no pb t5 q5 c ⟨#[58]⟩ (text_ne h58) W4 HP4.out
        have HR : Hid (RP.ruleP setOf c (t :: r) = .error ⟨refuseE 3 t5 c, t5.at_⟩) := by
          show _ = _
          rw [RP.ruleP, HR1.out]; dsimp only; rw [HR2.out]; dsimp only; rw [RP.markP, if_neg h58, refuse_eq]
        clear h58
        refine hM.mono ?_
        rintro e w5 ⟨⟨b', rfl, k1, k2, k3⟩, hb5⟩
        go_wp2_with fail
        exact ⟨rfl, Step.map HR.out HG4.out (grown_below hb5 _) ⟨b', rfl, k1, k2, k3⟩⟩

end Go.Proofs.YtjbdlihlcoldlaaGreatDoor.Q

namespace Go.Proofs.YtjbdlihlcoldlaaGreatDoor.Q
open Go.RowKit Go.Shelf

theorem size44 : (Tryz.prog.info? 94).map (·.size) = some 3 := by kernel_rfl

theorem PS.bump {pb : Nat} {ts : List RP.Tok} {c : Nat} {w : World} (h : PS pb ts c w) : PS pb ts (c + 1) (w.setCell ⟨pb, 1, none⟩ (.int .i64 ((c : Int) + 1))) := by
  obtain ⟨tb, off, cap, h1, h2, h3, h4, h5⟩ := h
  refine ⟨tb, off, cap, ?_, h2, h3, h4, fun k hk => ?_⟩
  · have := heap_setCell_same w pb 1 _ 132 (.int .i64 ((c : Int) + 1)) h1
    rw [this]
    push_cast
    rfl
  · have hc : ∀ j, (w.setCell ⟨pb, 1, none⟩ (.int .i64 ((c : Int) + 1))).cell? ⟨tb, j, none⟩ = w.cell? ⟨tb, j, none⟩ := fun j => World.cell?_of_block (a := ⟨tb, j, none⟩) (heap_setCell_other w ⟨pb, 1, none⟩ tb _ (by show tb ≠ pb; omega))
    rw [hc, hc, hc]
    exact h5 k hk

theorem grown_set3 (w : World) (g : Nat) (a b c : Value) :
    w.grownBy (((w.setCell ⟨g, 0, none⟩ a).setCell ⟨g, 1, none⟩ b).setCell ⟨g, 2, none⟩ c) (some g) :=
  ((grown_set a).trans (grown_set b)).trans (grown_set c)

set_option maxHeartbeats 2000000 in
set_option maxRecDepth 100000 in
theorem class_any (pb c : Nat) (ts : List RP.Tok) (w : World) (hc20 : c ≤ 20) (hf : RP.Fine ts) (h5 : 7 < pb) (hK : KT w) (h : PS pb ts c w) :
    Calls Tryz.prog 110 #[.pointer (some ⟨pb, 0, none⟩)] w (Step pb (c + 1) w (RP.classP setOf c ts) fun x v w' => ∃ kv, v = .agg #[.string ⟨x.name.toArray⟩, .int .i64 x.at_, kv] ∧ KAt (New w) w' kv x.kind) := by
  have hl := h.lt
  obtain ⟨t, r, rfl⟩ := hf.cons
  obtain ⟨tb, off, cap, c0, c1, f0, f1, hc, hcm, t0, t1, t2, htb, htp, -⟩ := h.open
  have HPS : Hid (PS pb (t :: r) c w) := h
  have HK : Hid (KT w) := hK
  have hgW : w.grownBy (w.alloc (.cells #[.string ⟨#[]⟩, .int .i64 0, .pointer none] 94)) none := World.grownBy_alloc _ _ _
  clear h hK
  by_cases h20 : c = 20
  · subst h20
    have hF := refuse_any 4 pb t r 20 _ (HPS.out.grown hgW)
    have HR : Hid (RP.classP setOf 20 (t :: r) = .error ⟨refuseE 4 t 20, t.at_⟩) := by show _ = _; rw [RP.classP, if_pos rfl]; rfl
    go_enter Tryz.func110, Tryz.ntmps110
    go_wp2_with fail
    refine hF.mono ?_
    rintro e w2 ⟨⟨b, rfl, k1, k2, k3⟩, hb2⟩
    go_wp2_with fail
    exact ⟨rfl, Step.map HR.out (grown_none hgW _) (grown_below hb2 _) ⟨b, rfl, k1, k2, k3⟩⟩
  have hne : ((c : Int) == 20) = false := by simp; omega
  have hne' : (c : Int) ≠ 20 := by omega
  have hcl : (c : Int) ≤ 20 := by omega
  have hfl := fld53_1
  by_cases hk5 : t.kind ≠ 5
  · have hF := take_no pb t r c 5 hk5 _ (HPS.out.grown hgW)
    have HR : Hid (RP.classP setOf c (t :: r) = .error ⟨refuseE 3 t c, t.at_⟩) := by show _ = _; rw [RP.classP, if_neg h20, RP.takeP, if_neg hk5, refuse_eq]
    go_enter Tryz.func110, Tryz.ntmps110
    go_wp2_with fail
    refine hF.mono ?_
    rintro e w2 ⟨⟨b, rfl, k1, k2, k3⟩, hb2⟩
    go_wp2_with fail
    exact ⟨rfl, Step.map HR.out (grown_none hgW _) (grown_below hb2 _) ⟨b, rfl, k1, k2, k3⟩⟩
  have hk5 : t.kind = 5 := Decidable.not_not.1 hk5
  have hT := take_yes pb t r c 5 hk5 _ (HPS.out.grown hgW)
  unfold tokV at hT
  have hqf : RP.Fine r := hf.next (.inl (by omega))
  have HR1 : Hid (RP.classP setOf c (t :: r) = match RP.nameP (c + 1) r with
      | .error b => .error b
      | .ok (x, r2) => match RP.markP (c + 1) [61] r2 with
        | .error b => .error b
        | .ok r3 => match RP.kindP (RP.oneKindP setOf (c + 1) 9) r3 with
          | .error b => .error b
          | .ok (k, r4) => match RP.markP (c + 1) [59] r4 with
            | .error b => .error b
            | .ok r5 => .ok (⟨t.at_, x, k⟩, r5)) := by
    show _ = _
    rw [RP.classP, if_neg h20, RP.takeP, if_pos hk5]
    rfl
  clear hk5 h20
  go_enter Tryz.func110, Tryz.ntmps110
  go_wp2_with fail
  refine hT.mono ?_
  rintro e w2 ⟨rfl, hp2, hg2⟩
  have hs2 := hg2.size
  have hA0 : w2.heap[w.heap.size]? = some (.cells #[.string ⟨#[]⟩, .int .i64 0, .pointer none] 94) := (hg2.block w.heap.size (by simp) (fun e => by cases e; omega)).trans (heap_alloc_new _ _)
  have hsA : w.heap.size + 1 ≤ w2.heap.size := by simpa using hs2
  obtain ⟨u, us, rfl⟩ := hqf.cons
  obtain ⟨tb2, off2, cap2, c0', c1', f0', f1', -, -, -, -, -, -, -, -⟩ := hp2.open
  have HP2 : Hid (PS pb (u :: us) c w2) := hp2
  have hpl := hp2.lt
  have HG2 : Hid (w.grownBy w2 (some pb)) := (grown_none hgW _).trans hg2
  clear c0 c1 f0 f1 t0 t1 t2 hT hp2 hg2 hgW hs2
  go_wp2_with fail
  have hgS : w2.grownBy (w2.setCell ⟨pb, 1, none⟩ (.int .i64 ((c : Int) + 1))) (some pb) := grown_set _
  have hszS : (w2.setCell ⟨pb, 1, none⟩ (.int .i64 ((c : Int) + 1))).heap.size = w2.heap.size := by simp
  have HP3 : Hid (PS pb (u :: us) (c + 1) ((w2.setCell ⟨pb, 1, none⟩ (.int .i64 ((c : Int) + 1))).alloc (.cells #[.string ⟨#[]⟩, .int .i64 t.at_, .pointer none] 94))) := HP2.out.bump.grown (World.grownBy_alloc _ _ _)
  have HG3 : Hid (w.grownBy ((w2.setCell ⟨pb, 1, none⟩ (.int .i64 ((c : Int) + 1))).alloc (.cells #[.string ⟨#[]⟩, .int .i64 t.at_, .pointer none] 94)) (some pb)) := (HG2.out.trans hgS).trans (World.grownBy_alloc _ _ _)
  have hN0 : ((w2.setCell ⟨pb, 1, none⟩ (.int .i64 ((c : Int) + 1))).alloc (.cells #[.string ⟨#[]⟩, .int .i64 t.at_, .pointer none] 94)).heap[w.heap.size]? = some (.cells #[.string ⟨#[]⟩, .int .i64 0, .pointer none] 94) := by
    rw [heap_alloc_old _ _ (by omega)]
    exact (hgS.block _ (by omega) (fun e => by cases e; omega)).trans hA0
  have hN1 : ((w2.setCell ⟨pb, 1, none⟩ (.int .i64 ((c : Int) + 1))).alloc (.cells #[.string ⟨#[]⟩, .int .i64 t.at_, .pointer none] 94)).heap[w2.heap.size]? = some (.cells #[.string ⟨#[]⟩, .int .i64 t.at_, .pointer none] 94) := by
    have := heap_alloc_new (w2.setCell ⟨pb, 1, none⟩ (.int .i64 ((c : Int) + 1))) (.cells #[.string ⟨#[]⟩, .int .i64 t.at_, .pointer none] 94)
    rw [hszS] at this
    exact this
  have hs3 : ((w2.setCell ⟨pb, 1, none⟩ (.int .i64 ((c : Int) + 1))).alloc (.cells #[.string ⟨#[]⟩, .int .i64 t.at_, .pointer none] 94)).heap.size = w2.heap.size + 1 := by simp
  generalize hW3 : (w2.setCell ⟨pb, 1, none⟩ (.int .i64 ((c : Int) + 1))).alloc (.cells #[.string ⟨#[]⟩, .int .i64 t.at_, .pointer none] 94) = W3 at HP3 HG3 hN0 hN1 hs3 ⊢
  generalize hn1 : w2.heap.size = n1 at hsA hpl hszS hN1 hs3 ⊢
  clear hW3 hgS hszS hA0 HP2 HG2 c0' c1' f0' f1' hn1
  have hB := name_any pb u us (c + 1) (by have := (hqf.2 u (by simp)).1; omega) W3 HP3.out
  cases hb : RP.nameP (c + 1) (u :: us) with
  | error b =>
    rw [hb] at hB
    have HR : Hid (RP.classP setOf c (t :: u :: us) = .error b) := by show _ = _; rw [HR1.out, hb]
    clear hb
    refine hB.mono ?_
    rintro e w4 ⟨hg4, b', rfl, k1, k2, k3⟩
    go_wp2_with fail
    exact ⟨rfl, Step.map HR.out HG3.out hg4 ⟨b', rfl, k1, k2, k3⟩⟩
  | ok x =>
    obtain ⟨x, q⟩ := x
    rw [hb] at hB
    have hqf2 := (RP.nameP_fine hqf hb).1
    have HR2 : Hid (RP.nameP (c + 1) (u :: us) = .ok (x, q)) := hb
    clear hb
    refine hB.mono ?_
    rintro e w4 ⟨hg4, hp4, v, rfl, rfl⟩
    have hs4 := hg4.size
    have hM0 := (hg4.block w.heap.size (by omega) (fun e => by cases e; omega)).trans hN0
    have hM1 := (hg4.block n1 (by omega) (fun e => by cases e; omega)).trans hN1
    have g0 := loc_cell (k := 0) hM1 rfl
    have z0 := loc_free (k := 0) hM1
    have HP4 : Hid (PS pb q (c + 1) w4) := hp4
    have HG4 : Hid (w.grownBy w4 (some pb)) := HG3.out.trans hg4
    clear hp4 hB hN0 hN1 hg4
    go_wp2_with fail
    have hgS : w4.grownBy (w4.setCell ⟨n1, 0, none⟩ (.string ⟨x.toArray⟩)) (some n1) := grown_set _
    have hN1 : (w4.setCell ⟨n1, 0, none⟩ (.string ⟨x.toArray⟩)).heap[n1]? = some (.cells #[.string ⟨x.toArray⟩, .int .i64 t.at_, .pointer none] 94) := heap_setCell_same w4 _ 0 _ 94 _ hM1
    have hN0 : (w4.setCell ⟨n1, 0, none⟩ (.string ⟨x.toArray⟩)).heap[w.heap.size]? = some (.cells #[.string ⟨#[]⟩, .int .i64 0, .pointer none] 94) := (hgS.block _ (by omega) (fun e => by cases e; omega)).trans hM0
    have hs5 : n1 + 1 ≤ (w4.setCell ⟨n1, 0, none⟩ (.string ⟨x.toArray⟩)).heap.size := by have := hgS.size; omega
    have HP5 : Hid (PS pb q (c + 1) (w4.setCell ⟨n1, 0, none⟩ (.string ⟨x.toArray⟩))) := HP4.out.other hgS fun j hj => by cases hj; omega
    have HG5 : Hid (w.grownBy (w4.setCell ⟨n1, 0, none⟩ (.string ⟨x.toArray⟩)) (some pb)) := grown_loc HG4.out hgS (by omega)
    generalize hW5 : w4.setCell ⟨n1, 0, none⟩ (.string ⟨x.toArray⟩) = W5 at hgS hN1 hN0 hs5 HP5 HG5 ⊢
    clear hW5 hgS hM0 hM1 g0 z0 HP4 HG4
    obtain ⟨t6, q6, rfl⟩ := hqf2.cons
    by_cases h61 : t6.text = [61]
    · have hM := mark_yes pb t6 q6 (c + 1) ⟨#[61]⟩ (text_eq h61) W5 HP5.out
      have hqf6 : RP.Fine q6 := hqf2.next (.inr (by rw [h61]; simp))
      have HR3 : Hid (RP.markP (c + 1) [61] (t6 :: q6) = .ok q6) := by show _ = _; rw [RP.markP, if_pos h61]
      clear h61
      refine hM.mono ?_
      rintro e w6 ⟨rfl, hp6, hg6⟩
      have hs6 := hg6.size
      have hN0' := (hg6.block w.heap.size (by omega) (fun e => by cases e; omega)).trans hN0
      have hN1' := (hg6.block n1 (by omega) (fun e => by cases e; omega)).trans hN1
      have HP6 : Hid (PS pb q6 (c + 1) w6) := hp6
      have HG6 : Hid (w.grownBy w6 (some pb)) := HG5.out.trans hg6
      clear hp6 hM hN0 hN1 hg6
      go_wp2_with fail
      have hC := kind_any 0 9 rfl pb (c + 1) q6 w6 hqf6 h5 (HK.out.grown HG6.out h5) HP6.out
      dsimp only at hC
      cases hb7 : RP.kindP (RP.oneKindP setOf (c + 1) 9) q6 with
      | error b =>
        rw [hb7] at hC
        have HR : Hid (RP.classP setOf c (t :: u :: us) = .error b) := by show _ = _; rw [HR1.out, HR2.out]; dsimp only; rw [HR3.out]; dsimp only; rw [hb7]
        clear hb7
        refine hC.mono ?_
        rintro e w7 ⟨hg7, b', rfl, k1, k2, k3⟩
        go_wp2_with fail
        exact ⟨rfl, Step.map HR.out HG6.out hg7 ⟨b', rfl, k1, k2, k3⟩⟩
      | ok y =>
        obtain ⟨y, q7⟩ := y
        rw [hb7] at hC
        have hqf7 := (RP.kindP_fine (RP.oneKindP_fine _ _ 9) _ _ _ hqf6 hb7).1
        have HR4 : Hid (RP.kindP (RP.oneKindP setOf (c + 1) 9) q6 = .ok (y, q7)) := hb7
        clear hb7
        refine hC.mono ?_
        rintro e w7 ⟨hg7, hp7, v7, rfl, hv7⟩
        obtain ⟨kb, rfl⟩ := hv7.ptr
        have hs7 := hg7.size
        have hM0 := (hg7.block w.heap.size (by omega) (fun e => by cases e; omega)).trans hN0'
        have hM1 := (hg7.block n1 (by omega) (fun e => by cases e; omega)).trans hN1'
        have g2 := loc_cell (k := 2) hM1 rfl
        have z2 := loc_free (k := 2) hM1
        have HP7 : Hid (PS pb q7 (c + 1) w7) := hp7
        have HG7 : Hid (w.grownBy w7 (some pb)) := HG6.out.trans hg7
        have HV7 : Hid (KAt (New w6) w7 (.pointer (some ⟨kb, 0, none⟩)) y) := hv7
        clear hp7 hv7 hC hN0' hN1' hg7
        go_wp2_with fail
        have hgS : w7.grownBy (w7.setCell ⟨n1, 2, none⟩ (.pointer (some ⟨kb, 0, none⟩))) (some n1) := grown_set _
        have hN1 : (w7.setCell ⟨n1, 2, none⟩ (.pointer (some ⟨kb, 0, none⟩))).heap[n1]? = some (.cells #[.string ⟨x.toArray⟩, .int .i64 t.at_, .pointer (some ⟨kb, 0, none⟩)] 94) := heap_setCell_same w7 _ 2 _ 94 _ hM1
        have hN0 : (w7.setCell ⟨n1, 2, none⟩ (.pointer (some ⟨kb, 0, none⟩))).heap[w.heap.size]? = some (.cells #[.string ⟨#[]⟩, .int .i64 0, .pointer none] 94) := (hgS.block _ (by omega) (fun e => by cases e; omega)).trans hM0
        have hs8 : w6.heap.size ≤ (w7.setCell ⟨n1, 2, none⟩ (.pointer (some ⟨kb, 0, none⟩))).heap.size := by have := hgS.size; omega
        have HP8 : Hid (PS pb q7 (c + 1) (w7.setCell ⟨n1, 2, none⟩ (.pointer (some ⟨kb, 0, none⟩)))) := HP7.out.other hgS fun j hj => by cases hj; omega
        have HG8 : Hid (w.grownBy (w7.setCell ⟨n1, 2, none⟩ (.pointer (some ⟨kb, 0, none⟩))) (some pb)) := grown_loc HG7.out hgS (by omega)
        have HV8 : Hid (KAt (New w6) (w7.setCell ⟨n1, 2, none⟩ (.pointer (some ⟨kb, 0, none⟩))) (.pointer (some ⟨kb, 0, none⟩)) y) := HV7.out.keep (Keeps.grown hgS fun b hb e => by cases e; unfold New at hb; omega)
        generalize hW8 : w7.setCell ⟨n1, 2, none⟩ (.pointer (some ⟨kb, 0, none⟩)) = W8 at hgS hN1 hN0 hs8 HP8 HG8 HV8 ⊢
        clear hW8 hgS hM0 hM1 g2 z2 HP7 HG7 HV7
        obtain ⟨t9, q9, rfl⟩ := hqf7.cons
        by_cases h59 : t9.text = [59]
        · have hM := mark_yes pb t9 q9 (c + 1) ⟨#[59]⟩ (text_eq h59) W8 HP8.out
          have HR : Hid (RP.classP setOf c (t :: u :: us) = .ok (⟨t.at_, x, y⟩, q9)) := by
            show _ = _
            rw [HR1.out, HR2.out]; dsimp only; rw [HR3.out]; dsimp only; rw [HR4.out]; dsimp only; rw [RP.markP, if_pos h59]
          clear h59
          refine hM.mono ?_
          rintro e w9 ⟨rfl, hp9, hg9⟩
          have hs9 := hg9.size
          have hN0' := (hg9.block w.heap.size (by omega) (fun e => by cases e; omega)).trans hN0
          have hN1' := (hg9.block n1 (by omega) (fun e => by cases e; omega)).trans hN1
          have HP9 : Hid (PS pb q9 (c + 1) w9) := hp9
          have HG9 : Hid (w.grownBy w9 (some pb)) := HG8.out.trans hg9
          have HV9 : Hid (KAt (New w6) w9 (.pointer (some ⟨kb, 0, none⟩)) y) := HV8.out.keep (Keeps.new (by omega) hg9)
          have a0 := loc_cell (k := 0) hN1' rfl
          have a1 := loc_cell (k := 1) hN1' rfl
          have a2 := loc_cell (k := 2) hN1' rfl
          have b0 := loc_cell (k := 0) hN0' rfl
          have b1 := loc_cell (k := 1) hN0' rfl
          have b2 := loc_cell (k := 2) hN0' rfl
          have z0 := loc_free (k := 0) hN0'
          have z1 := loc_free (k := 1) hN0'
          have z2 := loc_free (k := 2) hN0'
          clear hp9 hM hN0 hN1 hg9
          go_wp2_with fail
          have hL := row3_set hN0' (.string ⟨x.toArray⟩) (.int .i64 t.at_) (.pointer (some ⟨kb, 0, none⟩))
          have hgF := grown_set3 w9 w.heap.size (.string ⟨x.toArray⟩) (.int .i64 t.at_) (.pointer (some ⟨kb, 0, none⟩))
          have hkF := Keeps.grown (ok := New w6) hgF fun b hb e => by cases e; unfold New at hb; omega
          refine bodyPost_ret (results_cell_row rfl _ _ w.heap.size 94 #[_, _, _] _ _ rfl hL Tryz.underlying94 rfl size44) rfl ?_
          exact Step.ok HR.out (grown_loc HG9.out hgF (Nat.le_refl _)) (HP9.out.other hgF fun j hj => by cases hj; exact hl) ⟨_, rfl, KAt.mono (New.mono (by omega)) (HV9.out.keep hkF)⟩
        · have hM := mark_no pb t9 q9 (c + 1) ⟨#[59]⟩ (text_ne h59) W8 HP8.out
          have HR : Hid (RP.classP setOf c (t :: u :: us) = .error ⟨refuseE 3 t9 (c + 1), t9.at_⟩) := by
            show _ = _
            rw [HR1.out, HR2.out]; dsimp only; rw [HR3.out]; dsimp only; rw [HR4.out]; dsimp only; rw [RP.markP, if_neg h59, refuse_eq]
          clear h59
          refine hM.mono ?_
          rintro e w9 ⟨⟨b', rfl, k1, k2, k3⟩, hb9⟩
          go_wp2_with fail
          exact ⟨rfl, Step.map HR.out HG8.out (grown_below hb9 _) ⟨b', rfl, k1, k2, k3⟩⟩
    · have hM := mark_no pb t6 q6 (c + 1) ⟨#[61]⟩ (text_ne h61) W5 HP5.out
      have HR : Hid (RP.classP setOf c (t :: u :: us) = .error ⟨refuseE 3 t6 (c + 1), t6.at_⟩) := by
        show _ = _
        rw [HR1.out, HR2.out]; dsimp only; rw [RP.markP, if_neg h61, refuse_eq]
      clear h61
      refine hM.mono ?_
      rintro e w6 ⟨⟨b', rfl, k1, k2, k3⟩, hb6⟩
      go_wp2_with fail
      exact ⟨rfl, Step.map HR.out HG5.out (grown_below hb6 _) ⟨b', rfl, k1, k2, k3⟩⟩

end Go.Proofs.YtjbdlihlcoldlaaGreatDoor.Q
