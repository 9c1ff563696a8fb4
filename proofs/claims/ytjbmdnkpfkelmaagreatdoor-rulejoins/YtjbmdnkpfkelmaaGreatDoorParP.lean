/- The contract of class. -/
import Derived.Test.YtjbmdnkpfkelmaaGreatDoorParO
namespace Go.Proofs.YtjbmdnkpfkelmaaGreatDoor.Q
open Go.RowKit Go.Shelf

theorem size44 : (Tryz.prog.info? 44).map (·.size) = some 3 := by kernel_rfl

theorem PS.bump {pb : Nat} {ts : List RP.Tok} {c : Nat} {w : World} (h : PS pb ts c w) : PS pb ts (c + 1) (w.setCell ⟨pb, 1, none⟩ (.int .i64 ((c : Int) + 1))) := by
  obtain ⟨tb, off, cap, h1, h2, h3, h4, h5⟩ := h
  refine ⟨tb, off, cap, ?_, h2, h3, h4, fun k hk => ?_⟩
  · have := heap_setCell_same w pb 1 _ 38 (.int .i64 ((c : Int) + 1)) h1
    rw [this]
    push_cast
    rfl
  · have hc : ∀ j, (w.setCell ⟨pb, 1, none⟩ (.int .i64 ((c : Int) + 1))).cell? ⟨tb, j, none⟩ = w.cell? ⟨tb, j, none⟩ := fun j => World.cell?_of_block (a := ⟨tb, j, none⟩) (heap_setCell_other w ⟨pb, 1, none⟩ tb _ (by show tb ≠ pb; omega))
    rw [hc, hc, hc]
    exact h5 k hk

theorem grown_set3 (w : World) (g : Nat) (a b c : Value) :
    w.grownBy (((w.setCell ⟨g, 0, none⟩ a).setCell ⟨g, 1, none⟩ b).setCell ⟨g, 2, none⟩ c) (some g) :=
  ((grown_set a).trans (grown_set b)).trans (grown_set c)

set_option maxHeartbeats 2000000 in
set_option maxRecDepth 100000 in
theorem class_any (pb c : Nat) (ts : List RP.Tok) (w : World) (hc20 : c ≤ 20) (hf : RP.Fine ts) (h5 : 5 < pb) (hK : KT w) (h : PS pb ts c w) :
    Calls Tryz.prog 18 #[.pointer (some ⟨pb, 0, none⟩)] w (Step pb (c + 1) w (RP.classP setOf c ts) fun x v w' => ∃ kv, v = .agg #[.string ⟨x.name.toArray⟩, .int .i64 x.at_, kv] ∧ KAt (New w) w' kv x.kind) := by
  have hl := h.lt
  obtain ⟨t, r, rfl⟩ := hf.cons
  obtain ⟨tb, off, cap, c0, c1, f0, f1, hc, hcm, t0, t1, t2, htb, htp, -⟩ := h.open
  have HPS : Hid (PS pb (t :: r) c w) := h
  have HK : Hid (KT w) := hK
  have hgW : w.grownBy (w.alloc (.cells #[.string ⟨#[]⟩, .int .i64 0, .pointer none] 44)) none := World.grownBy_alloc _ _ _
  clear h hK
  by_cases h20 : c = 20
  · subst h20
    have hF := refuse_any 4 pb t r 20 _ (HPS.out.grown hgW)
    have HR : Hid (RP.classP setOf 20 (t :: r) = .error ⟨refuseE 4 t 20, t.at_⟩) := by show _ = _; rw [RP.classP, if_pos rfl]; rfl
    go_enter Tryz.func18, Tryz.ntmps18
    go_wp2_with fail
    refine hF.mono ?_
    rintro e w2 ⟨⟨b, rfl, k1, k2, k3⟩, hb2⟩
    go_wp2_with fail
    exact ⟨rfl, Step.map HR.out (grown_none hgW _) (grown_below hb2 _) ⟨b, rfl, k1, k2, k3⟩⟩
  have hne : ((c : Int) == 20) = false := by simp; omega
  have hne' : (c : Int) ≠ 20 := by omega
  have hcl : (c : Int) ≤ 20 := by omega
  have hfl := fld53_1
  by_cases hk5 : t.kind ≠ 5
  · have hF := take_no pb t r c 5 hk5 _ (HPS.out.grown hgW)
    have HR : Hid (RP.classP setOf c (t :: r) = .error ⟨refuseE 3 t c, t.at_⟩) := by show _ = _; rw [RP.classP, if_neg h20, RP.takeP, if_neg hk5, refuse_eq]
    go_enter Tryz.func18, Tryz.ntmps18
    go_wp2_with fail
    refine hF.mono ?_
    rintro e w2 ⟨⟨b, rfl, k1, k2, k3⟩, hb2⟩
    go_wp2_with fail
    exact ⟨rfl, Step.map HR.out (grown_none hgW _) (grown_below hb2 _) ⟨b, rfl, k1, k2, k3⟩⟩
  have hk5 : t.kind = 5 := Decidable.not_not.1 hk5
  have hT := take_yes pb t r c 5 hk5 _ (HPS.out.grown hgW)
  unfold tokV at hT
  have hqf : RP.Fine r := hf.next (.inl (by omega))
  have HR1 : Hid (RP.classP setOf c (t :: r) = match RP.nameP (c + 1) r with
      | .error b => .error b
      | .ok (x, r2) => match RP.markP (c + 1) [61] r2 with
        | .error b => .error b
        | .ok r3 => match RP.kindP (RP.oneKindP setOf (c + 1) 9) r3 with
          | .error b => .error b
          | .ok (k, r4) => match RP.markP (c + 1) [59] r4 with
            | .error b => .error b
            | .ok r5 => .ok (⟨t.at_, x, k⟩, r5)) := by
    show _ = _
    rw [RP.classP, if_neg h20, RP.takeP, if_pos hk5]
    rfl
  clear hk5 h20
  go_enter Tryz.func18, Tryz.ntmps18
  go_wp2_with fail
  refine hT.mono ?_
  rintro e w2 ⟨rfl, hp2, hg2⟩
  have hs2 := hg2.size
  have hA0 : w2.heap[w.heap.size]? = some (.cells #[.string ⟨#[]⟩, .int .i64 0, .pointer none] 44) := (hg2.block w.heap.size (by simp) (fun e => by cases e; omega)).trans (heap_alloc_new _ _)
  have hsA : w.heap.size + 1 ≤ w2.heap.size := by simpa using hs2
  obtain ⟨u, us, rfl⟩ := hqf.cons
  obtain ⟨tb2, off2, cap2, c0', c1', f0', f1', -, -, -, -, -, -, -, -⟩ := hp2.open
  have HP2 : Hid (PS pb (u :: us) c w2) := hp2
  have hpl := hp2.lt
  have HG2 : Hid (w.grownBy w2 (some pb)) := (grown_none hgW _).trans hg2
  clear c0 c1 f0 f1 t0 t1 t2 hT hp2 hg2 hgW hs2
  go_wp2_with fail
  have hgS : w2.grownBy (w2.setCell ⟨pb, 1, none⟩ (.int .i64 ((c : Int) + 1))) (some pb) := grown_set _
  have hszS : (w2.setCell ⟨pb, 1, none⟩ (.int .i64 ((c : Int) + 1))).heap.size = w2.heap.size := by simp
  have HP3 : Hid (PS pb (u :: us) (c + 1) ((w2.setCell ⟨pb, 1, none⟩ (.int .i64 ((c : Int) + 1))).alloc (.cells #[.string ⟨#[]⟩, .int .i64 t.at_, .pointer none] 44))) := HP2.out.bump.grown (World.grownBy_alloc _ _ _)
  have HG3 : Hid (w.grownBy ((w2.setCell ⟨pb, 1, none⟩ (.int .i64 ((c : Int) + 1))).alloc (.cells #[.string ⟨#[]⟩, .int .i64 t.at_, .pointer none] 44)) (some pb)) := (HG2.out.trans hgS).trans (World.grownBy_alloc _ _ _)
  have hN0 : ((w2.setCell ⟨pb, 1, none⟩ (.int .i64 ((c : Int) + 1))).alloc (.cells #[.string ⟨#[]⟩, .int .i64 t.at_, .pointer none] 44)).heap[w.heap.size]? = some (.cells #[.string ⟨#[]⟩, .int .i64 0, .pointer none] 44) := by
    rw [heap_alloc_old _ _ (by omega)]
    exact (hgS.block _ (by omega) (fun e => by cases e; omega)).trans hA0
  have hN1 : ((w2.setCell ⟨pb, 1, none⟩ (.int .i64 ((c : Int) + 1))).alloc (.cells #[.string ⟨#[]⟩, .int .i64 t.at_, .pointer none] 44)).heap[w2.heap.size]? = some (.cells #[.string ⟨#[]⟩, .int .i64 t.at_, .pointer none] 44) := by
    have := heap_alloc_new (w2.setCell ⟨pb, 1, none⟩ (.int .i64 ((c : Int) + 1))) (.cells #[.string ⟨#[]⟩, .int .i64 t.at_, .pointer none] 44)
    rw [hszS] at this
    exact this
  have hs3 : ((w2.setCell ⟨pb, 1, none⟩ (.int .i64 ((c : Int) + 1))).alloc (.cells #[.string ⟨#[]⟩, .int .i64 t.at_, .pointer none] 44)).heap.size = w2.heap.size + 1 := by simp
  generalize hW3 : (w2.setCell ⟨pb, 1, none⟩ (.int .i64 ((c : Int) + 1))).alloc (.cells #[.string ⟨#[]⟩, .int .i64 t.at_, .pointer none] 44) = W3 at HP3 HG3 hN0 hN1 hs3 ⊢
  generalize hn1 : w2.heap.size = n1 at hsA hpl hszS hN1 hs3 ⊢
  clear hW3 hgS hszS hA0 HP2 HG2 c0' c1' f0' f1' hn1
  have hB := name_any pb u us (c + 1) (by have := (hqf.2 u (by simp)).1; omega) W3 HP3.out
  cases hb : RP.nameP (c + 1) (u :: us) with
  | error b =>
    rw [hb] at hB
    have HR : Hid (RP.classP setOf c (t :: u :: us) = .error b) := by show _ = _; rw [HR1.out, hb]
    clear hb
    refine hB.mono ?_
    rintro e w4 ⟨hg4, b', rfl, k1, k2, k3⟩
    go_wp2_with fail
    exact ⟨rfl, Step.map HR.out HG3.out hg4 ⟨b', rfl, k1, k2, k3⟩⟩
  | ok x =>
    obtain ⟨x, q⟩ := x
    rw [hb] at hB
    have hqf2 := (RP.nameP_fine hqf hb).1
    have HR2 : Hid (RP.nameP (c + 1) (u :: us) = .ok (x, q)) := hb
    clear hb
    refine hB.mono ?_
    rintro e w4 ⟨hg4, hp4, v, rfl, rfl⟩
    have hs4 := hg4.size
    have hM0 := (hg4.block w.heap.size (by omega) (fun e => by cases e; omega)).trans hN0
    have hM1 := (hg4.block n1 (by omega) (fun e => by cases e; omega)).trans hN1
    have g0 := loc_cell (k := 0) hM1 rfl
    have z0 := loc_free (k := 0) hM1
    have HP4 : Hid (PS pb q (c + 1) w4) := hp4
    have HG4 : Hid (w.grownBy w4 (some pb)) := HG3.out.trans hg4
    clear hp4 hB hN0 hN1 hg4
    go_wp2_with fail
    have hgS : w4.grownBy (w4.setCell ⟨n1, 0, none⟩ (.string ⟨x.toArray⟩)) (some n1) := grown_set _
    have hN1 : (w4.setCell ⟨n1, 0, none⟩ (.string ⟨x.toArray⟩)).heap[n1]? = some (.cells #[.string ⟨x.toArray⟩, .int .i64 t.at_, .pointer none] 44) := heap_setCell_same w4 _ 0 _ 44 _ hM1
    have hN0 : (w4.setCell ⟨n1, 0, none⟩ (.string ⟨x.toArray⟩)).heap[w.heap.size]? = some (.cells #[.string ⟨#[]⟩, .int .i64 0, .pointer none] 44) := (hgS.block _ (by omega) (fun e => by cases e; omega)).trans hM0
    have hs5 : n1 + 1 ≤ (w4.setCell ⟨n1, 0, none⟩ (.string ⟨x.toArray⟩)).heap.size := by have := hgS.size; omega
    have HP5 : Hid (PS pb q (c + 1) (w4.setCell ⟨n1, 0, none⟩ (.string ⟨x.toArray⟩))) := HP4.out.other hgS fun j hj => by cases hj; omega
    have HG5 : Hid (w.grownBy (w4.setCell ⟨n1, 0, none⟩ (.string ⟨x.toArray⟩)) (some pb)) := grown_loc HG4.out hgS (by omega)
    generalize hW5 : w4.setCell ⟨n1, 0, none⟩ (.string ⟨x.toArray⟩) = W5 at hgS hN1 hN0 hs5 HP5 HG5 ⊢
    clear hW5 hgS hM0 hM1 g0 z0 HP4 HG4
    obtain ⟨t6, q6, rfl⟩ := hqf2.cons
    by_cases h61 : t6.text = [61]
    · have hM := mark_yes pb t6 q6 (c + 1) ⟨#[61]⟩ (text_eq h61) W5 HP5.out
      have hqf6 : RP.Fine q6 := hqf2.next (.inr (by rw [h61]; simp))
      have HR3 : Hid (RP.markP (c + 1) [61] (t6 :: q6) = .ok q6) := by show _ = _; rw [RP.markP, if_pos h61]
      clear h61
      refine hM.mono ?_
      rintro e w6 ⟨rfl, hp6, hg6⟩
      have hs6 := hg6.size
      have hN0' := (hg6.block w.heap.size (by omega) (fun e => by cases e; omega)).trans hN0
      have hN1' := (hg6.block n1 (by omega) (fun e => by cases e; omega)).trans hN1
      have HP6 : Hid (PS pb q6 (c + 1) w6) := hp6
      have HG6 : Hid (w.grownBy w6 (some pb)) := HG5.out.trans hg6
      clear hp6 hM hN0 hN1 hg6
      go_wp2_with fail
      have hC := kind_any 0 9 rfl pb (c + 1) q6 w6 hqf6 h5 (HK.out.grown HG6.out h5) HP6.out
      dsimp only at hC
      cases hb7 : RP.kindP (RP.oneKindP setOf (c + 1) 9) q6 with
      | error b =>
        rw [hb7] at hC
        have HR : Hid (RP.classP setOf c (t :: u :: us) = .error b) := by show _ = _; rw [HR1.out, HR2.out]; dsimp only; rw [HR3.out]; dsimp only; rw [hb7]
        clear hb7
        refine hC.mono ?_
        rintro e w7 ⟨hg7, b', rfl, k1, k2, k3⟩
        go_wp2_with fail
        exact ⟨rfl, Step.map HR.out HG6.out hg7 ⟨b', rfl, k1, k2, k3⟩⟩
      | ok y =>
        obtain ⟨y, q7⟩ := y
        rw [hb7] at hC
        have hqf7 := (RP.kindP_fine (RP.oneKindP_fine _ _ 9) _ _ _ hqf6 hb7).1
        have HR4 : Hid (RP.kindP (RP.oneKindP setOf (c + 1) 9) q6 = .ok (y, q7)) := hb7
        clear hb7
        refine hC.mono ?_
        rintro e w7 ⟨hg7, hp7, v7, rfl, hv7⟩
        obtain ⟨kb, rfl⟩ := hv7.ptr
        have hs7 := hg7.size
        have hM0 := (hg7.block w.heap.size (by omega) (fun e => by cases e; omega)).trans hN0'
        have hM1 := (hg7.block n1 (by omega) (fun e => by cases e; omega)).trans hN1'
        have g2 := loc_cell (k := 2) hM1 rfl
        have z2 := loc_free (k := 2) hM1
        have HP7 : Hid (PS pb q7 (c + 1) w7) := hp7
        have HG7 : Hid (w.grownBy w7 (some pb)) := HG6.out.trans hg7
        have HV7 : Hid (KAt (New w6) w7 (.pointer (some ⟨kb, 0, none⟩)) y) := hv7
        clear hp7 hv7 hC hN0' hN1' hg7
        go_wp2_with fail
        have hgS : w7.grownBy (w7.setCell ⟨n1, 2, none⟩ (.pointer (some ⟨kb, 0, none⟩))) (some n1) := grown_set _
        have hN1 : (w7.setCell ⟨n1, 2, none⟩ (.pointer (some ⟨kb, 0, none⟩))).heap[n1]? = some (.cells #[.string ⟨x.toArray⟩, .int .i64 t.at_, .pointer (some ⟨kb, 0, none⟩)] 44) := heap_setCell_same w7 _ 2 _ 44 _ hM1
        have hN0 : (w7.setCell ⟨n1, 2, none⟩ (.pointer (some ⟨kb, 0, none⟩))).heap[w.heap.size]? = some (.cells #[.string ⟨#[]⟩, .int .i64 0, .pointer none] 44) := (hgS.block _ (by omega) (fun e => by cases e; omega)).trans hM0
        have hs8 : w6.heap.size ≤ (w7.setCell ⟨n1, 2, none⟩ (.pointer (some ⟨kb, 0, none⟩))).heap.size := by have := hgS.size; omega
        have HP8 : Hid (PS pb q7 (c + 1) (w7.setCell ⟨n1, 2, none⟩ (.pointer (some ⟨kb, 0, none⟩)))) := HP7.out.other hgS fun j hj => by cases hj; omega
        have HG8 : Hid (w.grownBy (w7.setCell ⟨n1, 2, none⟩ (.pointer (some ⟨kb, 0, none⟩))) (some pb)) := grown_loc HG7.out hgS (by omega)
        have HV8 : Hid (KAt (New w6) (w7.setCell ⟨n1, 2, none⟩ (.pointer (some ⟨kb, 0, none⟩))) (.pointer (some ⟨kb, 0, none⟩)) y) := HV7.out.keep (Keeps.grown hgS fun b hb e => by cases e; unfold New at hb; omega)
        generalize hW8 : w7.setCell ⟨n1, 2, none⟩ (.pointer (some ⟨kb, 0, none⟩)) = W8 at hgS hN1 hN0 hs8 HP8 HG8 HV8 ⊢
        clear hW8 hgS hM0 hM1 g2 z2 HP7 HG7 HV7
        obtain ⟨t9, q9, rfl⟩ := hqf7.cons
        by_cases h59 : t9.text = [59]
        · have hM := mark_yes pb t9 q9 (c + 1) ⟨#[59]⟩ (text_eq h59) W8 HP8.out
          have HR : Hid (RP.classP setOf c (t :: u :: us) = .ok (⟨t.at_, x, y⟩, q9)) := by
            show _ = _
            rw [HR1.out, HR2.out]; dsimp only; rw [HR3.out]; dsimp only; rw [HR4.out]; dsimp only; rw [RP.markP, if_pos h59]
          clear h59
          refine hM.mono ?_
          rintro e w9 ⟨rfl, hp9, hg9⟩
          have hs9 := hg9.size
          have hN0' := (hg9.block w.heap.size (by omega) (fun e => by cases e; omega)).trans hN0
          have hN1' := (hg9.block n1 (by omega) (fun e => by cases e; omega)).trans hN1
          have HP9 : Hid (PS pb q9 (c + 1) w9) := hp9
          have HG9 : Hid (w.grownBy w9 (some pb)) := HG8.out.trans hg9
          have HV9 : Hid (KAt (New w6) w9 (.pointer (some ⟨kb, 0, none⟩)) y) := HV8.out.keep (Keeps.new (by omega) hg9)
          have a0 := loc_cell (k := 0) hN1' rfl
          have a1 := loc_cell (k := 1) hN1' rfl
          have a2 := loc_cell (k := 2) hN1' rfl
          have b0 := loc_cell (k := 0) hN0' rfl
          have b1 := loc_cell (k := 1) hN0' rfl
          have b2 := loc_cell (k := 2) hN0' rfl
          have z0 := loc_free (k := 0) hN0'
          have z1 := loc_free (k := 1) hN0'
          have z2 := loc_free (k := 2) hN0'
          clear hp9 hM hN0 hN1 hg9
          go_wp2_with fail
          have hL := row3_set hN0' (.string ⟨x.toArray⟩) (.int .i64 t.at_) (.pointer (some ⟨kb, 0, none⟩))
          have hgF := grown_set3 w9 w.heap.size (.string ⟨x.toArray⟩) (.int .i64 t.at_) (.pointer (some ⟨kb, 0, none⟩))
          have hkF := Keeps.grown (ok := New w6) hgF fun b hb e => by cases e; unfold New at hb; omega
          refine bodyPost_ret (results_cell_row rfl _ _ w.heap.size 44 #[_, _, _] _ _ rfl hL Tryz.underlying44 rfl size44) rfl ?_
          exact Step.ok HR.out (grown_loc HG9.out hgF (Nat.le_refl _)) (HP9.out.other hgF fun j hj => by cases hj; exact hl) ⟨_, rfl, KAt.mono (New.mono (by omega)) (HV9.out.keep hkF)⟩
        · have hM := mark_no pb t9 q9 (c + 1) ⟨#[59]⟩ (text_ne h59) W8 HP8.out
          have HR : Hid (RP.classP setOf c (t :: u :: us) = .error ⟨refuseE 3 t9 (c + 1), t9.at_⟩) := by
            show _ = _
            rw [HR1.out, HR2.out]; dsimp only; rw [HR3.out]; dsimp only; rw [HR4.out]; dsimp only; rw [RP.markP, if_neg h59, refuse_eq]
          clear h59
          refine hM.mono ?_
          rintro e w9 ⟨⟨b', rfl, k1, k2, k3⟩, hb9⟩
          go_wp2_with fail
          exact ⟨rfl, Step.map HR.out HG8.out (grown_below hb9 _) ⟨b', rfl, k1, k2, k3⟩⟩
    · have hM := mark_no pb t6 q6 (c + 1) ⟨#[61]⟩ (text_ne h61) W5 HP5.out
      have HR : Hid (RP.classP setOf c (t :: u :: us) = .error ⟨refuseE 3 t6 (c + 1), t6.at_⟩) := by
        show _ = _
        rw [HR1.out, HR2.out]; dsimp only; rw [RP.markP, if_neg h61, refuse_eq]
      clear h61
      refine hM.mono ?_
      rintro e w6 ⟨⟨b', rfl, k1, k2, k3⟩, hb6⟩
      go_wp2_with fail
      exact ⟨rfl, Step.map HR.out HG5.out (grown_below hb6 _) ⟨b', rfl, k1, k2, k3⟩⟩

end Go.Proofs.YtjbmdnkpfkelmaaGreatDoor.Q
