/- The document's own sides. -/
import Derived.Test.YtddjppkpgflbjaaDoorVmN
import Derived.Test.YtddjppkpgflbjaaDoorVmS
import Derived.BigQuiet
import Derived.Deep.QuietTactic
namespace Go.Proofs.YtddjppkpgflbjaaDoor
open Go.RowKit Go.Shelf

set_option maxHeartbeats 4000000 in
set_option maxRecDepth 100000 in
theorem sides_any (lv : Value) (l : List Int) (i : Nat) (w : World) (hl : PtsAt w.heap.size w lv l) (hn : l.length ≤ 100000) (hi : i ≤ l.length) :
    Calls Tryd.prog 37 #[lv, .int .i64 (i : Nat)] w fun e w' => (∃ v u, e = .returned (.tuple #[v, u]) ∧ w'.ownsRow w.heap.size 3 1 v i (ptsV (l.take i).reverse) ∧ PtsAt w'.heap.size w' u (l.drop i)) ∧ Below w.heap.size w w' := by
  obtain ⟨ao, cap, hlv, hc, hcell⟩ := hl
  have HC : Hid _ := hcell
  obtain ⟨n, hN⟩ : ∃ n, n = l.length := ⟨_, rfl⟩
  have HN : Hid (n = l.length) := hN
  rw [← hN] at hlv hc hn hi
  clear hcell hN
  subst hlv
  go_enter Tryd.func37, Tryd.ntmps37
  go_wp2_with fail
  go_loopw [4, 6] (fun v ix wr => ∃ k : Nat, k ≤ i ∧ ix = .int .i64 ((k : Int) - 1) ∧ wr.ownsRow w.heap.size 3 1 v ((l.take i).drop k).length (ptsV ((l.take i).drop k).reverse) ∧ Below w.heap.size w wr) (fun _ ix _ => (intOf ix + 1).toNat)
  case atStart =>
    refine ⟨i, Nat.le_refl _, rfl, ?_, Below.refl _ _⟩
    rw [List.drop_of_length_le (by simp; omega)]
    exact ⟨rfl, .inl ⟨rfl, rfl⟩⟩
  case round =>
    obtain ⟨k, hk, rfl, hown, hb⟩ := hrel
    have HO := hown
    have HB : Hid (Below w.heap.size w wr) := hb
    cases k with
    | succ k =>
      rw [show ((k + 1 : Nat) : Int) - 1 = (k : Int) by omega]
      have hkl : k < l.length := by have := HN.out; omega
      have hkn : k < n := by omega
      obtain ⟨b, off, rfl, hbw, hcs⟩ := HC.out (fun e => by rw [e] at hkl; simp at hkl)
      have jc := (hb.cell (p := ⟨b, off + k, none⟩) (by exact hbw)).trans (hcs k hkl)
      obtain ⟨i3, hi3, hz0, hz1, hz2⟩ := info_parts info3
      obtain ⟨x, hx⟩ : ∃ x, x = l[k] := ⟨_, rfl⟩
      rw [← hx] at jc
      have hstep : (l.take i).drop k = x :: (l.take i).drop (k + 1) := by
        rw [hx, List.drop_eq_getElem_cons (by simp; omega)]
        simp
      have hb0 : Below wr.heap.size wr (wr.alloc (.cells #[.int .i64 x] 3)) := (Below.refl _ wr).alloc (Nat.le_refl _) _
      have hlen : ((l.take i).drop (k + 1)).length ≤ 100000 := by simp; omega
      have hsz := hb.size
      obtain ⟨v', W2, hr, h2, h3, h4⟩ := append_where (P := Tryd.prog) (wr.alloc (.cells #[.int .i64 x] 3)) w.heap.size 29 29 3 i3 (.int .i64 0) 8 Tryd.underlying29 hi3 hz0 hz1 hz2 rfl _ _ _ (own_but hown (But.of_below hb0 (fun _ => False)) (fun _ _ => id)) ⟨wr.heap.size, 0, none⟩ 1 (.int .i64 x) (by rw [World.cell?_alloc_at _ _ _ _ rfl]; rfl) rfl (by unfold maxLen; omega) (by omega) (by have := hb0.size; omega)
      have hb2 : Below w.heap.size w W2 := hb.trans ((hb0.mono hsz).trans ⟨h3.os, h3.tape, h3.output, h3.size, fun j hj => h3.block j (by have := hb0.size; omega) (fun e => by
        have := (own_block hown e.symm).1
        omega)⟩)
      have HR : Hid _ := hr
      have HB2 : Hid (Below w.heap.size w W2) := hb2
      have HO2 : Hid (W2.ownsRow w.heap.size 3 1 v' ((l.take i).drop k).length (ptsV ((l.take i).drop k).reverse)) := by
        show W2.ownsRow _ _ _ _ _ _
        rw [hstep, List.length_cons, List.reverse_cons, show ptsV (((l.take i).drop (k + 1)).reverse ++ [x]) = ptsV ((l.take i).drop (k + 1)).reverse ++ [.int .i64 x] by simp [ptsV]]
        exact h2
      obtain ⟨vo, vp, hvs⟩ := own_slice hown
      clear hcs h2 h3 h4 hr hb hb0 hb2 hown hstep hlen hx
      go_wp2_with (at_builtin; refine Lib.wpList_append_run _ rfl _ _ _ _ rfl _ _ rfl rfl _ _ HR.out ?_)
      case roundEnd => exact ⟨⟨k, by omega, by go_num, HO2.out, HB2.out⟩, by simp [intOf]⟩
    | zero =>
      have HI : Hid (i ≤ l.length) := by
        show _ ≤ _
        have := HN.out; omega
      have HPD : Hid ((i = cap → PtsAt w.heap.size w (.slice ao (n - i) 0) (l.drop i)) ∧ PtsAt w.heap.size w (.slice (ao.map fun x => x.add i) (n - i) (cap - i)) (l.drop i)) := pts_drop HN.out hc hi HC.out
      have hi3 : (i : Int) ≤ (n : Int) := by omega
      have hpl : (n : Int) ≤ (cap : Int) := by omega
      have HO2 : Hid (wr.ownsRow w.heap.size 3 1 u4 i (ptsV (l.take i).reverse)) := by
        show wr.ownsRow _ _ _ _ _ _
        rwa [List.drop_zero, List.length_take, Nat.min_eq_left HI.out] at hown
      rw [show ((0 : Nat) : Int) - 1 = -1 by rfl]
      clear HO hown hb
      by_cases hkp : cap = i
      · subst hkp
        go_wp2_with fail
        go_quiet (fail)
        go_wp2_with fail
        go_ret2
        have hq := HPD.out.1 (by first | rfl | trivial)
        rw [show n - cap = 0 by omega] at hq
        exact ⟨⟨_, _, rfl, HO2.out, hq.below (below_drewN HB.out _) _ HB.out.size⟩, below_drewN HB.out _⟩
      · go_wp2_with fail
        go_quiet (fail)
        go_wp2_with fail
        go_ret2
        exact ⟨⟨_, _, rfl, HO2.out, HPD.out.2.below (below_drewN HB.out _) _ HB.out.size⟩, below_drewN HB.out _⟩

end Go.Proofs.YtddjppkpgflbjaaDoor
