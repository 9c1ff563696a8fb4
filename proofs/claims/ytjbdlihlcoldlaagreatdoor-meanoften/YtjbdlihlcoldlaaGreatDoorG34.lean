/- mean: standing. -/
import Derived.Test.YtjbdlihlcoldlaaGreatDoorG33
import Derived.Test.YtjbdlihlcoldlaaGreatDoorG31
namespace Go.Proofs.YtjbdlihlcoldlaaGreatDoor.M
open Go.RowKit Go.Shelf Go.Proofs.YtjbdlihlcoldlaaGreatDoor.Q

theorem which_all_new (n m B cap : Nat) (ao : Option Addr) (h1 : 1 ≤ n) (h2 : n ≤ 64) (w : World) (hB : B < w.heap.size) (hc : w.cell? ⟨B, 0, none⟩ = some (.slice ao m cap)) :
    Calls Tryz.prog 77 #[.int .i64 n, .func (.func 78) #[] #[.pointer (some ⟨B, 0, none⟩)]] w (PlNew w (mask (fun i => decide (i < m)) n)) :=
  which_new n h1 h2 78 _ _ w enter78 fun i _ W hW => ask_all i m B cap ao W ((hW.cell (by exact hB)).trans hc)

set_option maxHeartbeats 4000000 in
set_option maxRecDepth 100000 in
theorem standing_any (T : CK.Tab) (pts : List Int) (back : Bool) (xb : Nat) (p : RP.Pt) (mv uv : Value) (w : World) (h8 : 8 ≤ w.heap.size) (hz : TZ64 w) (hn : pts.length ≤ 63) (hu : UnAt w uv pts) (hm : NmAt w.heap.size w mv T)
    (hp : PAt (fun _ => True) w [.pointer (some ⟨xb, 0, none⟩)] p) (hf : CK.FitP p false) (hs : ShortP p) :
    Calls Tryz.prog 49 #[.pointer (some ⟨xb, 0, none⟩), mv, uv, .bool back] w (PlSay w (standQ T pts back p)) := by
  have HU : Hid (UnAt w uv pts) := hu
  have HM : Hid (NmAt w.heap.size w mv T) := hm
  have HP : Hid (PAt (fun _ => True) w [.pointer (some ⟨xb, 0, none⟩)] p) := hp
  have HZ : Hid (TZ64 w) := hz
  have HF : Hid (CK.FitP p false ∧ ShortP p) := ⟨hf, hs⟩
  obtain ⟨mb, _, _, rfl, -⟩ := hm
  obtain ⟨uo, uc, rfl, -, -, -⟩ := hu
  obtain ⟨m, hmm⟩ : ∃ m, m = pts.length := ⟨_, rfl⟩
  obtain ⟨n, hnn⟩ : ∃ n, n = m + 1 := ⟨_, rfl⟩
  have hwn : IntKind.i64.wrap ((m : Int) + 1) = (n : Int) := by rw [hnn]; exact wrap_small (by omega) (by omega)
  have HN : Hid (m = pts.length ∧ n = m + 1 ∧ m ≤ 63) := ⟨hmm, hnn, by omega⟩
  have h1n : 1 ≤ n := by omega
  have hn64 : n ≤ 64 := by omega
  rw [← hmm] at HU ⊢
  clear hz hn hp hnn hmm hf hs
  cases back with
  | true =>
    have HS : Hid (∃ S : Wk, S = ⟨true, mask (fun i => decide (i = 0)) n, n⟩) := ⟨_, rfl⟩
    go_enter Tryz.func49, Tryz.ntmps49
    go_wp2_with fail
    have HB : Hid (Below w.heap.size w (((w.alloc (Obj.cells #[Value.slice uo m uc] 51)).alloc (Obj.cells #[Value.slice uo m uc, Value.map (some mb), Value.int IntKind.i64 ↑n, Value.bool true, Value.slice none 0 0, Value.slice none 0 0] 154)).alloc (Obj.cells #[Value.int IntKind.i64 0] 3))) :=
      (((Below.refl _ w).alloc (Nat.le_refl _) _).alloc (by simp) _).alloc (by simp; omega) _
    have hs0 : (((w.alloc (Obj.cells #[Value.slice uo m uc] 51)).alloc (Obj.cells #[Value.slice uo m uc, Value.map (some mb), Value.int IntKind.i64 ↑n, Value.bool true, Value.slice none 0 0, Value.slice none 0 0] 154)).alloc (Obj.cells #[Value.int IntKind.i64 0] 3)).heap.size = w.heap.size + 3 := by simp
    have r0 : (((w.alloc (Obj.cells #[Value.slice uo m uc] 51)).alloc (Obj.cells #[Value.slice uo m uc, Value.map (some mb), Value.int IntKind.i64 ↑n, Value.bool true, Value.slice none 0 0, Value.slice none 0 0] 154)).alloc (Obj.cells #[Value.int IntKind.i64 0] 3)).heap[w.heap.size]? = some (.cells #[.slice uo m uc] 51 (0, 0)) := by
      rw [heap_alloc_old _ _ (by simp; omega), heap_alloc_old _ _ (by simp)]; exact heap_alloc_new w _
    have r1 : (((w.alloc (Obj.cells #[Value.slice uo m uc] 51)).alloc (Obj.cells #[Value.slice uo m uc, Value.map (some mb), Value.int IntKind.i64 ↑n, Value.bool true, Value.slice none 0 0, Value.slice none 0 0] 154)).alloc (Obj.cells #[Value.int IntKind.i64 0] 3)).heap[w.heap.size + 1]? = some (.cells #[Value.slice uo m uc, Value.map (some mb), Value.int IntKind.i64 ↑n, Value.bool true, Value.slice none 0 0, Value.slice none 0 0] 154 (0, 0)) := by
      rw [heap_alloc_old _ _ (by simp)]
      have := heap_alloc_new (w.alloc (Obj.cells #[Value.slice uo m uc] 51)) (Obj.cells #[Value.slice uo m uc, Value.map (some mb), Value.int IntKind.i64 ↑n, Value.bool true, Value.slice none 0 0, Value.slice none 0 0] 154)
      simpa using this
    have r2 : (((w.alloc (Obj.cells #[Value.slice uo m uc] 51)).alloc (Obj.cells #[Value.slice uo m uc, Value.map (some mb), Value.int IntKind.i64 ↑n, Value.bool true, Value.slice none 0 0, Value.slice none 0 0] 154)).alloc (Obj.cells #[Value.int IntKind.i64 0] 3)).heap[w.heap.size + 1 + 1]? = some (.cells #[Value.int IntKind.i64 0] 3 (0, 0)) := by
      have := heap_alloc_new ((w.alloc (Obj.cells #[Value.slice uo m uc] 51)).alloc (Obj.cells #[Value.slice uo m uc, Value.map (some mb), Value.int IntKind.i64 ↑n, Value.bool true, Value.slice none 0 0, Value.slice none 0 0] 154)) (Obj.cells #[Value.int IntKind.i64 0] 3)
      simpa using this
    generalize (((w.alloc (Obj.cells #[Value.slice uo m uc] 51)).alloc (Obj.cells #[Value.slice uo m uc, Value.map (some mb), Value.int IntKind.i64 ↑n, Value.bool true, Value.slice none 0 0, Value.slice none 0 0] 154)).alloc (Obj.cells #[Value.int IntKind.i64 0] 3)) = W0 at HB hs0 r0 r1 r2 ⊢
    obtain ⟨g, hg⟩ : ∃ x, x = w.heap.size := ⟨_, rfl⟩
    rw [← hg] at hs0 r0 r1 r2 ⊢
    have HG : Hid (g = w.heap.size ∧ 8 ≤ g) := ⟨hg, by omega⟩
    have C := which_all_new n m g uc uo h1n hn64 W0 (by omega) (cell_of_row W0 g 0 _ _ _ r0)
    have HR : Hid (W0.heap[g + 1 + 1]? = _) := r2
    have HR1 : Hid (W0.heap[g + 1]? = _) := r1
    clear hg r0 r1 r2 h8
    refine C.mono ?_
    rintro e w1 ⟨⟨A, rfl, hA0, hA1, hA2, hA3⟩, hb1⟩
    have HAN : Hid (g ≤ A) := by show _ ≤ _; omega
    have q1 := (hb1.block (g + 1) (by omega)).trans HR1.out
    have k4 := cell_of_row w1 (g + 1) 4 _ _ _ q1
    have f4 := frozen_of_row w1 (g + 1) 4 _ _ q1
    have q1' := heap_setCell_same w1 (g + 1) 4 _ 154 (Value.slice (some ⟨A, 0, none⟩) 1 1) q1
    have k2 : (w1.setCell ⟨g + 1, 4, none⟩ (.slice (some ⟨A, 0, none⟩) 1 1)).cell? ⟨g + 1, 2, none⟩ = some (.int .i64 n) := cell_of_row _ (g + 1) 2 _ _ _ q1'
    have q2 := (heap_setCell_other w1 ⟨g + 1, 4, none⟩ (g + 1 + 1) (.slice (some ⟨A, 0, none⟩) 1 1) (by show g + 1 + 1 ≠ g + 1; omega)).trans ((hb1.block (g + 1 + 1) (by omega)).trans HR.out)
    have HA : Hid (∃ u, u = mask (fun i => decide (i < m)) n ∧ A < (w1.setCell ⟨g + 1, 4, none⟩ (.slice (some ⟨A, 0, none⟩) 1 1)).heap.size ∧ A ≠ g + 1 ∧ A ≠ g + 1 + 1 ∧ (w1.setCell ⟨g + 1, 4, none⟩ (.slice (some ⟨A, 0, none⟩) 1 1)).cell? ⟨A, 0, none⟩ = some (.int .u64 u) ∧ u < 18446744073709551616) := by
      have hne1 : A ≠ g + 1 := by
        rintro rfl
        have e := cell_of_row w1 (g + 1) 0 _ _ _ q1
        rw [hA2] at e
        cases e
      have hne2 : A ≠ g + 1 + 1 := by
        rintro rfl
        have e := cell_of_row w1 (g + 1 + 1) 0 _ _ _ ((hb1.block (g + 1 + 1) (by omega)).trans HR.out)
        rw [hA2] at e
        cases e
      exact ⟨_, rfl, by simp; exact hA1, hne1, hne2, (World.cell?_of_block (w := w1) (a := ⟨A, 0, none⟩) (heap_setCell_other w1 ⟨g + 1, 4, none⟩ A _ hne1)).trans hA2, hA3⟩
    have HB1 : Hid (Below w.heap.size w (w1.setCell ⟨g + 1, 4, none⟩ (.slice (some ⟨A, 0, none⟩) 1 1))) := (HB.out.trans (hb1.mono HB.out.size)).setCell (p := ⟨g + 1, 4, none⟩) (by have := HG.out; show w.heap.size ≤ g + 1; omega) _
    have hs1 : g + 3 ≤ (w1.setCell ⟨g + 1, 4, none⟩ (.slice (some ⟨A, 0, none⟩) 1 1)).heap.size := by have := hb1.size; simp; omega
    have HQ2 : Hid (_ = some (Obj.cells #[Value.int IntKind.i64 0] 3 (0, 0))) := q2
    have HQ1 : Hid (_ = some (Obj.cells #[Value.slice uo m uc, Value.map (some mb), Value.int IntKind.i64 ↑n, Value.bool true, Value.slice (some ⟨A, 0, none⟩) 1 1, Value.slice none 0 0] 154 (0, 0))) := q1'
    clear C hb1 hA0 hA1 hA2 hA3 q1 q1' q2
    go_wp2_with fail
    generalize w1.setCell ⟨g + 1, 4, none⟩ (.slice (some ⟨A, 0, none⟩) 1 1) = W2 at HA HB1 hs1 HQ2 HQ1 ⊢
    have C := which_edge n 0 (g + 1 + 1) h1n hn64 W2 (by omega) (cell_of_row W2 (g + 1 + 1) 0 _ _ _ HQ2.out)
    clear k2
    refine C.mono ?_
    rintro e w3 ⟨⟨v3, rfl, hv3⟩, hb3⟩
    obtain ⟨E, rfl, hE1, hE2, hE3⟩ := hv3
    have q1 := (hb3.block (g + 1) (by omega)).trans HQ1.out
    have k5 := cell_of_row w3 (g + 1) 5 _ _ _ q1
    have f5 := frozen_of_row w3 (g + 1) 5 _ _ q1
    have q1' := heap_setCell_same w3 (g + 1) 5 _ 154 (Value.slice (some ⟨E, 0, none⟩) 1 1) q1
    have k2 : (w3.setCell ⟨g + 1, 5, none⟩ (.slice (some ⟨E, 0, none⟩) 1 1)).cell? ⟨g + 1, 2, none⟩ = some (.int .i64 n) := cell_of_row _ (g + 1) 2 _ _ _ q1'
    have HE : Hid (∃ u x, u = mask (fun i => decide (i < m)) n ∧ x = mask (fun i => decide (i = 0)) n ∧ A < (w3.setCell ⟨g + 1, 5, none⟩ (.slice (some ⟨E, 0, none⟩) 1 1)).heap.size ∧ E < (w3.setCell ⟨g + 1, 5, none⟩ (.slice (some ⟨E, 0, none⟩) 1 1)).heap.size ∧ (w3.setCell ⟨g + 1, 5, none⟩ (.slice (some ⟨E, 0, none⟩) 1 1)).cell? ⟨A, 0, none⟩ = some (.int .u64 u) ∧ u < 18446744073709551616 ∧ (w3.setCell ⟨g + 1, 5, none⟩ (.slice (some ⟨E, 0, none⟩) 1 1)).cell? ⟨E, 0, none⟩ = some (.int .u64 x) ∧ x < 18446744073709551616) := by
      obtain ⟨u, hu, a1, a2, a3, a4, a5⟩ := HA.out
      have hne1 : E ≠ g + 1 := by
        rintro rfl
        have e := cell_of_row w3 (g + 1) 0 _ _ _ q1
        rw [hE2] at e
        cases e
      have hsz := hb3.size
      exact ⟨u, _, hu, rfl, by simp; omega, by simp; exact hE1, (World.cell?_of_block (w := w3) (a := ⟨A, 0, none⟩) (heap_setCell_other w3 ⟨g + 1, 5, none⟩ A _ a2)).trans ((hb3.cell (by exact a1)).trans a4), a5,
        (World.cell?_of_block (w := w3) (a := ⟨E, 0, none⟩) (heap_setCell_other w3 ⟨g + 1, 5, none⟩ E _ hne1)).trans hE2, hE3⟩
    have HB3 : Hid (Below w.heap.size w (w3.setCell ⟨g + 1, 5, none⟩ (.slice (some ⟨E, 0, none⟩) 1 1))) := (HB1.out.trans (hb3.mono HB1.out.size)).setCell (p := ⟨g + 1, 5, none⟩) (by have := HG.out; show w.heap.size ≤ g + 1; omega) _
    have hs3 : g + 3 ≤ (w3.setCell ⟨g + 1, 5, none⟩ (.slice (some ⟨E, 0, none⟩) 1 1)).heap.size := by have := hb3.size; simp; omega
    have HQ : Hid (_ = some (Obj.cells #[Value.slice uo m uc, Value.map (some mb), Value.int IntKind.i64 ↑n, Value.bool true, Value.slice (some ⟨A, 0, none⟩) 1 1, Value.slice (some ⟨E, 0, none⟩) 1 1] 154 (0, 0))) := q1'
    clear C hb3 hE1 hE2 hE3 q1 q1' HA HB1 hs1 HQ2 HQ1
    go_wp2_with fail
    generalize w3.setCell ⟨g + 1, 5, none⟩ (.slice (some ⟨E, 0, none⟩) 1 1) = W4 at HE HB3 hs3 HQ ⊢
    have C := which_yes n h1n hn64 W4
    clear k2
    refine C.mono ?_
    rintro e w5 ⟨⟨v5, rfl, hv5⟩, hb5⟩
    have HV : Hid (Pl w5.heap.size w5 v5 (mask (fun _ => true) n)) := hv5
    obtain ⟨V, rfl, -⟩ := hv5
    have HB5 : Hid (Below w.heap.size w w5) := HB3.out.trans (hb5.mono HB3.out.size)
    have hs5 : g + 3 ≤ w5.heap.size := by have := hb5.size; omega
    obtain ⟨S, hS⟩ := HS.out
    have HSE : Hid (S = ⟨true, mask (fun i => decide (i = 0)) n, n⟩) := hS
    have HW : Hid (WkIn S T pts w5 (g + 1) ∧ AllAt w5 (g + 1) A) := by
      obtain ⟨u, x, rfl, rfl, a1, a2, a3, a4, a5, a6⟩ := HE.out
      obtain ⟨z1, z2, z3⟩ := HN.out
      obtain ⟨y1, y2⟩ := HG.out
      have hr := (hb5.block (g + 1) (by omega)).trans HQ.out
      have e1 := hb5.cell (p := ⟨A, 0, none⟩) (by exact a1)
      have e2 := hb5.cell (p := ⟨E, 0, none⟩) (by exact a2)
      refine ⟨⟨by omega, by rw [hS]; show n = _; omega, by rw [hS]; exact hn64, _, _, _, _, by rw [hS]; exact hr, HU.out.below HB5.out, HM.out.below HB5.out _ HB5.out.size, ?_, ?_⟩, ?_⟩
      · rw [hS, ← z1]
        exact ⟨A, rfl, by have := hb5.size; omega, e1.trans a3, a4⟩
      · rw [hS]
        exact ⟨E, rfl, by have := hb5.size; omega, e2.trans a5, a6⟩
      · exact cell_of_row w5 (g + 1) 4 _ _ _ hr
    have C := (ready_all S T pts A (g + 1) p).1 xb w5 (HP.out.keep (keepsB HB5.out)) HF.out.1 HF.out.2 HW.out.1 HW.out.2
    clear hb5 hS HS HE HB3 hs3 HQ
    go_wp2_with fail
    refine C.mono ?_
    rintro e w6 ⟨pb, rfl, hq6, hb6⟩
    have HQ6 : Hid (QAt (New w) w6 [ptrV pb] (rdyS S T pts p).1) := QAt.mono (fun b _ hb => by
      have := HB5.out.size
      rcases hb with h | h
      · unfold New at h ⊢; omega
      · subst h; have h1 := HAN.out; have h2 := HG.out; unfold New; omega) hq6
    have C2 := walked S T pts (g + 1) pb p w w6 (HW.out.1.below hb6) ((HZ.out.below HB5.out (by have := HG.out; omega)).below hb6 (by have := HG.out; omega)) (Nat.le_trans HB5.out.size hb6.size) HF.out.1 HQ6.out (.slice (some ⟨V, 0, none⟩) 1 1)
      (by rw [HSE.out]; exact HV.out.below hb6 _ hb6.size)
    have HB6 : Hid (Below w.heap.size w w6) := HB5.out.trans (hb6.mono HB5.out.size)
    have HEQ : Hid ((S.ev (rdyS S T pts p).1).1 (mask (fun _ => true) S.n) = standQ T pts true p) := by
      obtain ⟨z1, z2, z3⟩ := HN.out
      subst z2
      subst z1
      show _ = _
      rw [HSE.out]
      rfl
    clear C hq6 hb6
    go_wp2_with fail
    refine C2.mono ?_
    rintro e w7 ⟨⟨v7, rfl, hv7⟩, hb7⟩
    have HR7 : Hid (PlSay w (standQ T pts true p) (.returned v7) w7) := ⟨⟨v7, rfl, by rw [← HEQ.out]; exact hv7⟩, HB6.out.trans hb7⟩
    obtain ⟨b7, rfl, -⟩ := hv7
    clear C2 hb7
    go_wp2_with fail
    go_ret
    exact HR7.out
  | false =>
    have HS : Hid (∃ S : Wk, S = ⟨false, mask (fun i => decide (i = m)) n, n⟩) := ⟨_, rfl⟩
    go_enter Tryz.func49, Tryz.ntmps49
    go_wp2_with fail
    have HB : Hid (Below w.heap.size w (((w.alloc (Obj.cells #[Value.slice uo m uc] 51)).alloc (Obj.cells #[Value.slice uo m uc, Value.map (some mb), Value.int IntKind.i64 ↑n, Value.bool false, Value.slice none 0 0, Value.slice none 0 0] 154)).alloc (Obj.cells #[Value.int IntKind.i64 ↑m] 3))) :=
      (((Below.refl _ w).alloc (Nat.le_refl _) _).alloc (by simp) _).alloc (by simp; omega) _
    have hs0 : (((w.alloc (Obj.cells #[Value.slice uo m uc] 51)).alloc (Obj.cells #[Value.slice uo m uc, Value.map (some mb), Value.int IntKind.i64 ↑n, Value.bool false, Value.slice none 0 0, Value.slice none 0 0] 154)).alloc (Obj.cells #[Value.int IntKind.i64 ↑m] 3)).heap.size = w.heap.size + 3 := by simp
    have r0 : (((w.alloc (Obj.cells #[Value.slice uo m uc] 51)).alloc (Obj.cells #[Value.slice uo m uc, Value.map (some mb), Value.int IntKind.i64 ↑n, Value.bool false, Value.slice none 0 0, Value.slice none 0 0] 154)).alloc (Obj.cells #[Value.int IntKind.i64 ↑m] 3)).heap[w.heap.size]? = some (.cells #[.slice uo m uc] 51 (0, 0)) := by
      rw [heap_alloc_old _ _ (by simp; omega), heap_alloc_old _ _ (by simp)]; exact heap_alloc_new w _
    have r1 : (((w.alloc (Obj.cells #[Value.slice uo m uc] 51)).alloc (Obj.cells #[Value.slice uo m uc, Value.map (some mb), Value.int IntKind.i64 ↑n, Value.bool false, Value.slice none 0 0, Value.slice none 0 0] 154)).alloc (Obj.cells #[Value.int IntKind.i64 ↑m] 3)).heap[w.heap.size + 1]? = some (.cells #[Value.slice uo m uc, Value.map (some mb), Value.int IntKind.i64 ↑n, Value.bool false, Value.slice none 0 0, Value.slice none 0 0] 154 (0, 0)) := by
      rw [heap_alloc_old _ _ (by simp)]
      have := heap_alloc_new (w.alloc (Obj.cells #[Value.slice uo m uc] 51)) (Obj.cells #[Value.slice uo m uc, Value.map (some mb), Value.int IntKind.i64 ↑n, Value.bool false, Value.slice none 0 0, Value.slice none 0 0] 154)
      simpa using this
    have r2 : (((w.alloc (Obj.cells #[Value.slice uo m uc] 51)).alloc (Obj.cells #[Value.slice uo m uc, Value.map (some mb), Value.int IntKind.i64 ↑n, Value.bool false, Value.slice none 0 0, Value.slice none 0 0] 154)).alloc (Obj.cells #[Value.int IntKind.i64 ↑m] 3)).heap[w.heap.size + 1 + 1]? = some (.cells #[Value.int IntKind.i64 ↑m] 3 (0, 0)) := by
      have := heap_alloc_new ((w.alloc (Obj.cells #[Value.slice uo m uc] 51)).alloc (Obj.cells #[Value.slice uo m uc, Value.map (some mb), Value.int IntKind.i64 ↑n, Value.bool false, Value.slice none 0 0, Value.slice none 0 0] 154)) (Obj.cells #[Value.int IntKind.i64 ↑m] 3)
      simpa using this
    generalize (((w.alloc (Obj.cells #[Value.slice uo m uc] 51)).alloc (Obj.cells #[Value.slice uo m uc, Value.map (some mb), Value.int IntKind.i64 ↑n, Value.bool false, Value.slice none 0 0, Value.slice none 0 0] 154)).alloc (Obj.cells #[Value.int IntKind.i64 ↑m] 3)) = W0 at HB hs0 r0 r1 r2 ⊢
    obtain ⟨g, hg⟩ : ∃ x, x = w.heap.size := ⟨_, rfl⟩
    rw [← hg] at hs0 r0 r1 r2 ⊢
    have HG : Hid (g = w.heap.size ∧ 8 ≤ g) := ⟨hg, by omega⟩
    have C := which_all_new n m g uc uo h1n hn64 W0 (by omega) (cell_of_row W0 g 0 _ _ _ r0)
    have HR : Hid (W0.heap[g + 1 + 1]? = _) := r2
    have HR1 : Hid (W0.heap[g + 1]? = _) := r1
    clear hg r0 r1 r2 h8
    refine C.mono ?_
    rintro e w1 ⟨⟨A, rfl, hA0, hA1, hA2, hA3⟩, hb1⟩
    have HAN : Hid (g ≤ A) := by show _ ≤ _; omega
    have q1 := (hb1.block (g + 1) (by omega)).trans HR1.out
    have k4 := cell_of_row w1 (g + 1) 4 _ _ _ q1
    have f4 := frozen_of_row w1 (g + 1) 4 _ _ q1
    have q1' := heap_setCell_same w1 (g + 1) 4 _ 154 (Value.slice (some ⟨A, 0, none⟩) 1 1) q1
    have k2 : (w1.setCell ⟨g + 1, 4, none⟩ (.slice (some ⟨A, 0, none⟩) 1 1)).cell? ⟨g + 1, 2, none⟩ = some (.int .i64 n) := cell_of_row _ (g + 1) 2 _ _ _ q1'
    have q2 := (heap_setCell_other w1 ⟨g + 1, 4, none⟩ (g + 1 + 1) (.slice (some ⟨A, 0, none⟩) 1 1) (by show g + 1 + 1 ≠ g + 1; omega)).trans ((hb1.block (g + 1 + 1) (by omega)).trans HR.out)
    have HA : Hid (∃ u, u = mask (fun i => decide (i < m)) n ∧ A < (w1.setCell ⟨g + 1, 4, none⟩ (.slice (some ⟨A, 0, none⟩) 1 1)).heap.size ∧ A ≠ g + 1 ∧ A ≠ g + 1 + 1 ∧ (w1.setCell ⟨g + 1, 4, none⟩ (.slice (some ⟨A, 0, none⟩) 1 1)).cell? ⟨A, 0, none⟩ = some (.int .u64 u) ∧ u < 18446744073709551616) := by
      have hne1 : A ≠ g + 1 := by
        rintro rfl
        have e := cell_of_row w1 (g + 1) 0 _ _ _ q1
        rw [hA2] at e
        cases e
      have hne2 : A ≠ g + 1 + 1 := by
        rintro rfl
        have e := cell_of_row w1 (g + 1 + 1) 0 _ _ _ ((hb1.block (g + 1 + 1) (by omega)).trans HR.out)
        rw [hA2] at e
        cases e
      exact ⟨_, rfl, by simp; exact hA1, hne1, hne2, (World.cell?_of_block (w := w1) (a := ⟨A, 0, none⟩) (heap_setCell_other w1 ⟨g + 1, 4, none⟩ A _ hne1)).trans hA2, hA3⟩
    have HB1 : Hid (Below w.heap.size w (w1.setCell ⟨g + 1, 4, none⟩ (.slice (some ⟨A, 0, none⟩) 1 1))) := (HB.out.trans (hb1.mono HB.out.size)).setCell (p := ⟨g + 1, 4, none⟩) (by have := HG.out; show w.heap.size ≤ g + 1; omega) _
    have hs1 : g + 3 ≤ (w1.setCell ⟨g + 1, 4, none⟩ (.slice (some ⟨A, 0, none⟩) 1 1)).heap.size := by have := hb1.size; simp; omega
    have HQ2 : Hid (_ = some (Obj.cells #[Value.int IntKind.i64 ↑m] 3 (0, 0))) := q2
    have HQ1 : Hid (_ = some (Obj.cells #[Value.slice uo m uc, Value.map (some mb), Value.int IntKind.i64 ↑n, Value.bool false, Value.slice (some ⟨A, 0, none⟩) 1 1, Value.slice none 0 0] 154 (0, 0))) := q1'
    clear C hb1 hA0 hA1 hA2 hA3 q1 q1' q2
    go_wp2_with fail
    generalize w1.setCell ⟨g + 1, 4, none⟩ (.slice (some ⟨A, 0, none⟩) 1 1) = W2 at HA HB1 hs1 HQ2 HQ1 ⊢
    have C := which_edge n m (g + 1 + 1) h1n hn64 W2 (by omega) (cell_of_row W2 (g + 1 + 1) 0 _ _ _ HQ2.out)
    clear k2
    refine C.mono ?_
    rintro e w3 ⟨⟨v3, rfl, hv3⟩, hb3⟩
    obtain ⟨E, rfl, hE1, hE2, hE3⟩ := hv3
    have q1 := (hb3.block (g + 1) (by omega)).trans HQ1.out
    have k5 := cell_of_row w3 (g + 1) 5 _ _ _ q1
    have f5 := frozen_of_row w3 (g + 1) 5 _ _ q1
    have q1' := heap_setCell_same w3 (g + 1) 5 _ 154 (Value.slice (some ⟨E, 0, none⟩) 1 1) q1
    have k2 : (w3.setCell ⟨g + 1, 5, none⟩ (.slice (some ⟨E, 0, none⟩) 1 1)).cell? ⟨g + 1, 2, none⟩ = some (.int .i64 n) := cell_of_row _ (g + 1) 2 _ _ _ q1'
    have HE : Hid (∃ u x, u = mask (fun i => decide (i < m)) n ∧ x = mask (fun i => decide (i = m)) n ∧ A < (w3.setCell ⟨g + 1, 5, none⟩ (.slice (some ⟨E, 0, none⟩) 1 1)).heap.size ∧ E < (w3.setCell ⟨g + 1, 5, none⟩ (.slice (some ⟨E, 0, none⟩) 1 1)).heap.size ∧ (w3.setCell ⟨g + 1, 5, none⟩ (.slice (some ⟨E, 0, none⟩) 1 1)).cell? ⟨A, 0, none⟩ = some (.int .u64 u) ∧ u < 18446744073709551616 ∧ (w3.setCell ⟨g + 1, 5, none⟩ (.slice (some ⟨E, 0, none⟩) 1 1)).cell? ⟨E, 0, none⟩ = some (.int .u64 x) ∧ x < 18446744073709551616) := by
      obtain ⟨u, hu, a1, a2, a3, a4, a5⟩ := HA.out
      have hne1 : E ≠ g + 1 := by
        rintro rfl
        have e := cell_of_row w3 (g + 1) 0 _ _ _ q1
        rw [hE2] at e
        cases e
      have hsz := hb3.size
      exact ⟨u, _, hu, rfl, by simp; omega, by simp; exact hE1, (World.cell?_of_block (w := w3) (a := ⟨A, 0, none⟩) (heap_setCell_other w3 ⟨g + 1, 5, none⟩ A _ a2)).trans ((hb3.cell (by exact a1)).trans a4), a5,
        (World.cell?_of_block (w := w3) (a := ⟨E, 0, none⟩) (heap_setCell_other w3 ⟨g + 1, 5, none⟩ E _ hne1)).trans hE2, hE3⟩
    have HB3 : Hid (Below w.heap.size w (w3.setCell ⟨g + 1, 5, none⟩ (.slice (some ⟨E, 0, none⟩) 1 1))) := (HB1.out.trans (hb3.mono HB1.out.size)).setCell (p := ⟨g + 1, 5, none⟩) (by have := HG.out; show w.heap.size ≤ g + 1; omega) _
    have hs3 : g + 3 ≤ (w3.setCell ⟨g + 1, 5, none⟩ (.slice (some ⟨E, 0, none⟩) 1 1)).heap.size := by have := hb3.size; simp; omega
    have HQ : Hid (_ = some (Obj.cells #[Value.slice uo m uc, Value.map (some mb), Value.int IntKind.i64 ↑n, Value.bool false, Value.slice (some ⟨A, 0, none⟩) 1 1, Value.slice (some ⟨E, 0, none⟩) 1 1] 154 (0, 0))) := q1'
    clear C hb3 hE1 hE2 hE3 q1 q1' HA HB1 hs1 HQ2 HQ1
    go_wp2_with fail
    generalize w3.setCell ⟨g + 1, 5, none⟩ (.slice (some ⟨E, 0, none⟩) 1 1) = W4 at HE HB3 hs3 HQ ⊢
    have C := which_yes n h1n hn64 W4
    clear k2
    refine C.mono ?_
    rintro e w5 ⟨⟨v5, rfl, hv5⟩, hb5⟩
    have HV : Hid (Pl w5.heap.size w5 v5 (mask (fun _ => true) n)) := hv5
    obtain ⟨V, rfl, -⟩ := hv5
    have HB5 : Hid (Below w.heap.size w w5) := HB3.out.trans (hb5.mono HB3.out.size)
    have hs5 : g + 3 ≤ w5.heap.size := by have := hb5.size; omega
    obtain ⟨S, hS⟩ := HS.out
    have HSE : Hid (S = ⟨false, mask (fun i => decide (i = m)) n, n⟩) := hS
    have HW : Hid (WkIn S T pts w5 (g + 1) ∧ AllAt w5 (g + 1) A) := by
      obtain ⟨u, x, rfl, rfl, a1, a2, a3, a4, a5, a6⟩ := HE.out
      obtain ⟨z1, z2, z3⟩ := HN.out
      obtain ⟨y1, y2⟩ := HG.out
      have hr := (hb5.block (g + 1) (by omega)).trans HQ.out
      have e1 := hb5.cell (p := ⟨A, 0, none⟩) (by exact a1)
      have e2 := hb5.cell (p := ⟨E, 0, none⟩) (by exact a2)
      refine ⟨⟨by omega, by rw [hS]; show n = _; omega, by rw [hS]; exact hn64, _, _, _, _, by rw [hS]; exact hr, HU.out.below HB5.out, HM.out.below HB5.out _ HB5.out.size, ?_, ?_⟩, ?_⟩
      · rw [hS, ← z1]
        exact ⟨A, rfl, by have := hb5.size; omega, e1.trans a3, a4⟩
      · rw [hS]
        exact ⟨E, rfl, by have := hb5.size; omega, e2.trans a5, a6⟩
      · exact cell_of_row w5 (g + 1) 4 _ _ _ hr
    have C := (ready_all S T pts A (g + 1) p).1 xb w5 (HP.out.keep (keepsB HB5.out)) HF.out.1 HF.out.2 HW.out.1 HW.out.2
    clear hb5 hS HS HE HB3 hs3 HQ
    go_wp2_with fail
    refine C.mono ?_
    rintro e w6 ⟨pb, rfl, hq6, hb6⟩
    have HQ6 : Hid (QAt (New w) w6 [ptrV pb] (rdyS S T pts p).1) := QAt.mono (fun b _ hb => by
      have := HB5.out.size
      rcases hb with h | h
      · unfold New at h ⊢; omega
      · subst h; have h1 := HAN.out; have h2 := HG.out; unfold New; omega) hq6
    have C2 := walked S T pts (g + 1) pb p w w6 (HW.out.1.below hb6) ((HZ.out.below HB5.out (by have := HG.out; omega)).below hb6 (by have := HG.out; omega)) (Nat.le_trans HB5.out.size hb6.size) HF.out.1 HQ6.out (.slice (some ⟨V, 0, none⟩) 1 1)
      (by rw [HSE.out]; exact HV.out.below hb6 _ hb6.size)
    have HB6 : Hid (Below w.heap.size w w6) := HB5.out.trans (hb6.mono HB5.out.size)
    have HEQ : Hid ((S.ev (rdyS S T pts p).1).1 (mask (fun _ => true) S.n) = standQ T pts false p) := by
      obtain ⟨z1, z2, z3⟩ := HN.out
      subst z2
      subst z1
      show _ = _
      rw [HSE.out]
      rfl
    clear C hq6 hb6
    go_wp2_with fail
    refine C2.mono ?_
    rintro e w7 ⟨⟨v7, rfl, hv7⟩, hb7⟩
    have HR7 : Hid (PlSay w (standQ T pts false p) (.returned v7) w7) := ⟨⟨v7, rfl, by rw [← HEQ.out]; exact hv7⟩, HB6.out.trans hb7⟩
    obtain ⟨b7, rfl, -⟩ := hv7
    clear C2 hb7
    go_wp2_with fail
    go_ret
    exact HR7.out

end Go.Proofs.YtjbdlihlcoldlaaGreatDoor.M

namespace Go.Proofs.YtjbdlihlcoldlaaGreatDoor.M
open Go.RowKit Go.Shelf Go.Proofs.YtjbdlihlcoldlaaGreatDoor.Q

set_option maxHeartbeats 2000000 in
set_option maxRecDepth 100000 in
/-- Stands: whether the place is one at which the pattern stands. -/
theorem stands_any (T : CK.Tab) (pts : List Int) (back : Bool) (i : Nat) (xb : Nat) (p : RP.Pt) (mv uv : Value) (w : World) (h8 : 8 ≤ w.heap.size) (hz : TZ64 w) (hn : pts.length ≤ 63) (hi : i ≤ pts.length) (hu : UnAt w uv pts) (hm : NmAt w.heap.size w mv T)
    (hp : PAt (fun _ => True) w [.pointer (some ⟨xb, 0, none⟩)] p) (hf : CK.FitP p false) (hs : ShortP p) :
    Calls Tryz.prog 28 #[.pointer (some ⟨xb, 0, none⟩), mv, uv, .int .i64 i, .bool back] w fun e w' => e = .returned (.bool ((standQ T pts back p).testBit i)) ∧ Below w.heap.size w w' := by
  have K := standing_any T pts back xb p mv uv w h8 hz hn hu hm hp hf hs
  obtain ⟨mb, _, _, rfl, -⟩ := hm
  obtain ⟨uo, uc, rfl, -, -, -⟩ := hu
  have hil : ¬ ((i : Int) < 0) := by omega
  have hig : ¬ ((pts.length : Int) < (i : Int)) := by omega
  have hi64 : i < 64 := by omega
  clear hz hp hf hs hn h8 hi
  generalize standQ T pts back p = q at K ⊢
  generalize pts.length = m at *
  go_enter Tryz.func28, Tryz.ntmps28
  go_wp2_with fail
  refine K.mono ?_
  rintro e w1 ⟨⟨v, rfl, b, rfl, hb1, hc, hq⟩, hb⟩
  have C := place_has_any b q i hi64 hq w1 hc
  have HB : Hid (Below w.heap.size w w1) := hb
  clear K hb
  go_wp2_with fail
  refine C.mono ?_
  rintro e w2 ⟨rfl, rfl⟩
  clear C
  go_wp2_with fail
  go_ret
  exact ⟨rfl, HB.out⟩

end Go.Proofs.YtjbdlihlcoldlaaGreatDoor.M

namespace Go.Proofs.YtjbdlihlcoldlaaGreatDoor.M
open Go.RowKit Go.Shelf Go.Proofs.YtjbdlihlcoldlaaGreatDoor.Q

/-- What a rule says, and the places at which its patterns stand. -/
abbrev Sd := Bool × Nat × Nat

/-- Rules, each with where its patterns stand. -/
noncomputable def stoodS (T : CK.Tab) (pts : List Int) (rs : List RP.Ru) : List Sd := rs.map fun r => (r.brk, standQ T pts true r.before, standQ T pts false r.after)

/-- Does a rule stand at a place? -/
def stands (i : Nat) (s : Sd) : Bool := s.2.1.testBit i && s.2.2.testBit i

/-- What the first rule says that stands at a place; else what is said else. -/
def saysS (L : List Sd) (i : Nat) (other : Bool) : Bool := match L.find? (stands i) with
  | some s => s.1
  | none => other

/-- These cells hold these rules, each with where its patterns stand. -/
def SdAt (w : World) : List Value → List Sd → Prop
  | vs, [] => vs = []
  | vs, s :: ss => ∃ bv av us, vs = .bool s.1 :: bv :: av :: us ∧ Pl w.heap.size w bv s.2.1 ∧ Pl w.heap.size w av s.2.2 ∧ SdAt w us ss

/-- A change that keeps each set of places that is at hand. -/
def PlKept (w w' : World) : Prop := ∀ v q, Pl w.heap.size w v q → Pl w'.heap.size w' v q

theorem PlKept.below {w w' : World} (hb : Below w.heap.size w w') : PlKept w w' := fun _ _ h => h.below hb _ hb.size

theorem SdAt.kept {w w' : World} (hk : PlKept w w') : ∀ {L : List Sd} {vs : List Value}, SdAt w vs L → SdAt w' vs L
  | [], _, h => h
  | _ :: _, _, ⟨bv, av, us, h1, h2, h3, h4⟩ => ⟨bv, av, us, h1, hk _ _ h2, hk _ _ h3, SdAt.kept hk h4⟩

theorem SdAt.snoc {w : World} {s : Sd} {bv av : Value} (h2 : Pl w.heap.size w bv s.2.1) (h3 : Pl w.heap.size w av s.2.2) : ∀ {L : List Sd} {vs : List Value}, SdAt w vs L → SdAt w (vs ++ [.bool s.1, bv, av]) (L ++ [s])
  | [], vs, h => by
    have h : vs = [] := h
    subst h
    exact ⟨bv, av, [], rfl, h2, h3, rfl⟩
  | _ :: _, _, ⟨b1, a1, us, h4, h5, h6, h7⟩ => by
    subst h4
    exact ⟨b1, a1, _, rfl, h5, h6, SdAt.snoc h2 h3 h7⟩

theorem SdAt.get {w : World} : ∀ {L : List Sd} {vs : List Value} (_ : SdAt w vs L) (k : Nat) (hk : k < L.length), ∃ bv av, vs[k * 3]? = some (.bool L[k].1) ∧ vs[k * 3 + 1]? = some bv ∧ vs[k * 3 + 2]? = some av ∧ Pl w.heap.size w bv L[k].2.1 ∧ Pl w.heap.size w av L[k].2.2
  | [], _, _, k, hk => by simp at hk
  | s :: L, vs, ⟨bv, av, us, hu, h1, h2, h3⟩, 0, _ => by subst hu; exact ⟨bv, av, rfl, rfl, rfl, h1, h2⟩
  | s :: L, vs, ⟨bv, av, us, hu, h1, h2, h3⟩, k + 1, hk => by
    subst hu
    obtain ⟨b, a, q1, q2, q3, q4, q5⟩ := SdAt.get (L := L) h3 k (by simpa using hk)
    have e0 : (k + 1) * 3 = k * 3 + 3 := by omega
    refine ⟨b, a, ?_, ?_, ?_, by simpa using q4, by simpa using q5⟩
    · rw [e0]; simpa using q1
    · rw [e0]; simpa using q2
    · rw [e0]; simpa using q3

/-- Rules at hand, in an own row. -/
def SdRow (B : Nat) (w : World) (v : Value) (L : List Sd) : Prop :=
  ∃ vs, w.ownsRow B 150 3 v L.length vs ∧ SdAt w vs L ∧ (L = [] → v = .slice none 0 0)

theorem SdRow.nil (B : Nat) (w : World) : SdRow B w (.slice none 0 0) [] := ⟨[], World.ownsRow_nil _ _ _ _, rfl, fun _ => rfl⟩

theorem own_below {B e size : Nat} {w w' : World} {v : Value} {n : Nat} {xs : List Value} (h : w.ownsRow B e size v n xs) (hb : Below w.heap.size w w') : w'.ownsRow B e size v n xs := by
  obtain ⟨k1, k2 | ⟨g, cap, cur, rfl, hgl, hh, rest⟩⟩ := h
  · exact ⟨k1, .inl k2⟩
  · exact ⟨k1, .inr ⟨g, cap, cur, rfl, hgl, (hb.block g (lt_of_block hh)).trans hh, rest⟩⟩

theorem SdRow.below {B : Nat} {w w' : World} {v : Value} {L : List Sd} (h : SdRow B w v L) (hb : Below w.heap.size w w') : SdRow B w' v L := by
  obtain ⟨vs, h1, h2, h3⟩ := h
  exact ⟨vs, own_below h1 hb, h2.kept (PlKept.below hb), h3⟩

theorem SdRow.lt {B : Nat} {w : World} {v : Value} {L : List Sd} (h : SdRow B w v L) : ∀ j, v.ownBlock = some j → j < w.heap.size := fun j hj => by
  obtain ⟨vs, h1, -⟩ := h
  exact (h1.lt j hj).2

theorem info150 : (Tryz.prog.info? 150).map (fun i => (i.zero, i.size, i.bytes)) = some (some (.agg #[.bool false, .slice none 0 0, .slice none 0 0]), 3, 56) := by kernel_rfl

/-- One more. -/
theorem SdRow.more {B : Nat} {w : World} {v bv av : Value} {L : List Sd} (s : Sd) (h : SdRow B w v L) (hp : Pl w.heap.size w bv s.2.1) (hq : Pl w.heap.size w av s.2.2) (hB : B ≤ w.heap.size) (hn : L.length ≤ 1000000) :
    ∃ v' w', (Builtin.append_ #[103, 103] 103 #[v, .slice (some ⟨w.heap.size, 0, none⟩) 1 1]).run Tryz.prog (w.alloc (.cells #[.bool s.1, bv, av] 150)) = .ok v' w' ∧ SdRow B w' v' (L ++ [s]) ∧ Below B w w' ∧ ∀ j, j < w.heap.size → v.ownBlock ≠ some j → w'.heap[j]? = w.heap[j]? := by
  obtain ⟨i0, hi, hz0, hz1, hz2⟩ := info_parts info150
  obtain ⟨vs, h1, h2, h3⟩ := h
  have hb0 : Below w.heap.size w (w.alloc (.cells #[.bool s.1, bv, av] 150)) := (Below.refl _ _).alloc (Nat.le_refl _) _
  have hown := own_below h1 hb0
  have hblk := heap_alloc_new w (.cells #[.bool s.1, bv, av] 150)
  have hone : ∀ x ∈ [Value.bool s.1, bv, av], x.oneCell' = true := by
    obtain ⟨b1, rfl, -⟩ := hp
    obtain ⟨b2, rfl, -⟩ := hq
    intro x hx
    simp at hx
    rcases hx with rfl | rfl | rfl <;> rfl
  obtain ⟨v', w', hr, ho, hg, hwh⟩ := append_at (P := Tryz.prog) (w.alloc (.cells #[.bool s.1, bv, av] 150)) B 103 103 150 i0 _ 3 56 Tryz.underlying103 hi hz0 hz1 hz2 rfl (by decide) v L.length vs hown ⟨w.heap.size, 0, none⟩ 1 [.bool s.1, bv, av] rfl
    (by
      intro j x hj
      match j, hj with
      | 0, hj => cases hj; exact cell_of_row _ _ 0 _ _ _ hblk
      | 1, hj => cases hj; exact cell_of_row _ _ 1 _ _ _ hblk
      | 2, hj => cases hj; exact cell_of_row _ _ 2 _ _ _ hblk
      | j + 3, hj => simp at hj) hone (by unfold maxLen; omega) (by omega) (by have := hb0.size; omega)
  have hvb : ∀ j, v.ownBlock = some j → B ≤ j ∧ j < w.heap.size := fun j hj => h1.lt j hj
  -- a set of places is kept: its block isn't the row's own
  have hpk : PlKept w w' ∨ L = [] := by
    by_cases hL : L = []
    · exact .inr hL
    · left
      intro u q hu
      obtain ⟨b, rfl, hb, hc, hqq⟩ := hu
      have hne : v.ownBlock ≠ some b := by
        intro e
        obtain ⟨k1, k2 | ⟨g, cap, cur, rfl, hgl, hh, hn2, hcm, hcs, ht⟩⟩ := h1
        · obtain ⟨rfl, -⟩ := k2
          simp [Value.ownBlock] at e
        · have hgb : g = b := by simpa [Value.ownBlock] using e
          subst hgb
          cases L with
          | nil => exact hL rfl
          | cons s0 L0 =>
            obtain ⟨b0, a0, us, hv, -⟩ := h2
            have h0 := World.ownsRow.cells (g := g) (w := w) (base := B) (e := 150) (size := 3) (n := (s0 :: L0).length) (xs := vs) (v := .slice (some ⟨g, 0, none⟩) (s0 :: L0).length cap) ⟨k1, .inr ⟨g, cap, cur, rfl, hgl, hh, hn2, hcm, hcs, ht⟩⟩ rfl 0 (.bool s0.1) (by rw [hv]; rfl)
            simp only [Addr.add_lit, Nat.add_zero] at h0
            rw [hc] at h0
            cases h0
      have hs1 := hg.size
      have hs0 := hb0.size
      refine ⟨b, rfl, by omega, ?_, hqq⟩
      have e1 := hg.block b (by omega) (fun e => hne e.symm)
      have e2 := hb0.block b hb
      exact (World.cell?_of_block (w := w) (a := ⟨b, 0, none⟩) (e1.trans e2)).trans hc
  have hbw : Below B w w' := by
    have hb' : Below B w (w.alloc (.cells #[.bool s.1, bv, av] 150)) := hb0.mono hB
    exact hb'.grown hg (by have := hb0.size; omega) (fun k hk => (hvb k hk).1)
  have hoth : ∀ j, j < w.heap.size → v.ownBlock ≠ some j → w'.heap[j]? = w.heap[j]? := fun j hj hne => (hg.block j (by have := hb0.size; omega) (fun e => hne e.symm)).trans (hb0.block j hj)
  rcases hpk with hpk | rfl
  · refine ⟨v', w', hr, ⟨vs ++ [.bool s.1, bv, av], by rw [List.length_append]; exact ho, SdAt.snoc (hpk _ _ hp) (hpk _ _ hq) (h2.kept hpk), fun e => by simp at e⟩, hbw, hoth⟩
  · have hv0 := h3 rfl
    subst hv0
    have h2' : vs = [] := h2
    subst h2'
    have hpk : PlKept w w' := by
      have : Below w.heap.size w w' := hb0.grown hg (by have := hb0.size; omega) (fun k hk => by simp [Value.ownBlock] at hk)
      exact PlKept.below this
    exact ⟨v', w', hr, ⟨[.bool s.1, bv, av], by simpa using ho, ⟨bv, av, [], rfl, hpk _ _ hp, hpk _ _ hq, rfl⟩, fun e => by simp at e⟩, hbw, hoth⟩

end Go.Proofs.YtjbdlihlcoldlaaGreatDoor.M

namespace Go.Proofs.YtjbdlihlcoldlaaGreatDoor.M
open Go.RowKit Go.Shelf Go.Proofs.YtjbdlihlcoldlaaGreatDoor.Q

/-- What a round of allStanding holds of its rule's box. -/
def RBox (w : World) (h : Nat) (brk : Bool) (bb ab : Nat) (W : World) : Prop :=
  W.cell? ⟨h, 1, none⟩ = some (.bool brk) ∧ W.cell? ⟨h, 2, none⟩ = some (.pointer (some ⟨bb, 0, none⟩)) ∧ W.cell? ⟨h, 3, none⟩ = some (.pointer (some ⟨ab, 0, none⟩)) ∧ Below w.heap.size w W ∧ h < W.heap.size

theorem RBox.on {w : World} {h : Nat} {brk : Bool} {bb ab : Nat} {W W' : World} (k : RBox w h brk bb ab W) (hb : Below W.heap.size W W') : RBox w h brk bb ab W' := by
  obtain ⟨h1, h2, h3, h4, h5⟩ := k
  have := hb.size
  exact ⟨(hb.cell (by exact h5)).trans h1, (hb.cell (by exact h5)).trans h2, (hb.cell (by exact h5)).trans h3, h4.trans (hb.mono h4.size), by omega⟩

theorem RBox.open_ {w : World} {h : Nat} {brk : Bool} {bb ab : Nat} {W : World} (k : RBox w h brk bb ab W) : W.cell? ⟨h, 1, none⟩ = some (.bool brk) ∧ W.cell? ⟨h, 2, none⟩ = some (.pointer (some ⟨bb, 0, none⟩)) ∧ W.cell? ⟨h, 3, none⟩ = some (.pointer (some ⟨ab, 0, none⟩)) ∧ Below w.heap.size w W ∧ h < W.heap.size := k

theorem RBox.kept {w : World} {h : Nat} {brk : Bool} {bb ab : Nat} {W W' : World} (k : RBox w h brk bb ab W) (hb : Below w.heap.size W W') (he : W'.heap[h]? = W.heap[h]?) : RBox w h brk bb ab W' := by
  obtain ⟨h1, h2, h3, h4, h5⟩ := k
  have := hb.size
  exact ⟨(World.cell?_of_block (w := W) (a := ⟨h, 1, none⟩) he).trans h1, (World.cell?_of_block (w := W) (a := ⟨h, 2, none⟩) he).trans h2, (World.cell?_of_block (w := W) (a := ⟨h, 3, none⟩) he).trans h3, h4.trans hb, by omega⟩

theorem stoodS_take {T : CK.Tab} {pts : List Int} {rs : List RP.Ru} {k : Nat} (hk : k < rs.length) :
    stoodS T pts (rs.take (k + 1)) = stoodS T pts (rs.take k) ++ [(rs[k].brk, standQ T pts true rs[k].before, standQ T pts false rs[k].after)] := by
  unfold stoodS
  rw [List.take_succ_eq_append_getElem hk, List.map_append]
  rfl

theorem stoodS_len (T : CK.Tab) (pts : List Int) (rs : List RP.Ru) : (stoodS T pts rs).length = rs.length := by
  unfold stoodS; simp

set_option maxHeartbeats 4000000 in
set_option maxRecDepth 100000 in
theorem allStanding_any (T : CK.Tab) (pts : List Int) (rs : List RP.Ru) (rv mv uv : Value) (us : List Value) (w : World) (h8 : 8 ≤ w.heap.size) (hz : TZ64 w) (hn : pts.length ≤ 63) (hu : UnAt w uv pts) (hm : NmAt w.heap.size w mv T)
    (hr : Row (fun _ => True) w 50 4 rv rs.length us) (hrs : RsAt (fun _ => True) w us rs) (hf : ∀ r ∈ rs, CK.FitP r.before false ∧ CK.FitP r.after false) (hs : ∀ r ∈ rs, ShortP r.before ∧ ShortP r.after) (hl : rs.length ≤ 1000) :
    Calls Tryz.prog 45 #[rv, mv, uv] w fun e w' => (∃ v, e = .returned v ∧ SdRow w.heap.size w' v (stoodS T pts rs)) ∧ Below w.heap.size w w' := by
  obtain ⟨ro, rc, rfl, hrc, hrg⟩ := row_cells hr
  have HC : Hid (RsAt (fun _ => True) w us rs ∧ (us ≠ [] → ∃ g off, ro = some ⟨g, off, none⟩ ∧ g < w.heap.size ∧ ∀ j u, us[j]? = some u → w.cell? ⟨g, off + j, none⟩ = some u)) := ⟨hrs, hrg⟩
  have HF : Hid (∀ r ∈ rs, (CK.FitP r.before false ∧ CK.FitP r.after false) ∧ ShortP r.before ∧ ShortP r.after) := fun r h => ⟨hf r h, hs r h⟩
  have HU : Hid (UnAt w uv pts) := hu
  have HM : Hid (NmAt w.heap.size w mv T) := hm
  have HZ : Hid (TZ64 w) := hz
  have HN0 : Hid (pts.length ≤ 63 ∧ 8 ≤ w.heap.size) := ⟨hn, h8⟩
  obtain ⟨mb, _, _, rfl, -⟩ := hm
  obtain ⟨uo, uc, rfl, -, -, -⟩ := hu
  obtain ⟨m, hmm⟩ : ∃ m, m = pts.length := ⟨_, rfl⟩
  have HMM : Hid (m = pts.length) := hmm
  obtain ⟨n, hnn⟩ : ∃ n, n = rs.length := ⟨_, rfl⟩
  have HN : Hid (n = rs.length) := hnn
  rw [← hnn] at hrc hl ⊢
  rw [← hmm] at HU ⊢
  have HR : Hid (stoodS T pts rs = stoodS T pts (rs.take n)) := by show _ = _; rw [hnn, List.take_length]
  clear hr hrs hrg hf hs hz hn h8 hmm hnn
  go_enter Tryz.func45, Tryz.ntmps45
  go_wp2_with fail
  go_loopw [7, 12] (fun v i wr => ∃ (k : Nat), k ≤ n ∧ i = .int .i64 k ∧ SdRow w.heap.size wr v (stoodS T pts (rs.take k)) ∧ Below w.heap.size w wr) (fun _ i _ => n - (intOf i).toNat)
  case atStart => exact ⟨0, Nat.zero_le _, rfl, SdRow.nil _ _, Below.refl _ _⟩
  case round =>
    obtain ⟨k, hk, rfl, hrow, hb⟩ := hrel
    have HB : Hid (Below w.heap.size w wr) := hb
    have HRW : Hid (SdRow w.heap.size wr u7 (stoodS T pts (rs.take k))) := hrow
    obtain ⟨vo, vn, vc, rfl⟩ : ∃ a b c, u7 = .slice a b c := by
      obtain ⟨_, ho, -⟩ := hrow
      obtain ⟨a, c, e⟩ := own_slice ho
      exact ⟨_, _, _, e⟩
    by_cases hlt : k < n
    · have hkp : k < rs.length := by have := HN.out; omega
      obtain ⟨bv, av, y0, y1, y2, y3, hPB, hPA⟩ := HC.out.1.get k hkp
      obtain ⟨g, off, rfl, hgl, hcell⟩ := HC.out.2 (fun e => by rw [e] at y0; simp at y0)
      have x0 := (hb.cell (p := ⟨g, off + k * 4, none⟩) (by exact hgl)).trans (hcell _ _ y0)
      have x1 := (hb.cell (p := ⟨g, off + (k * 4 + 1), none⟩) (by exact hgl)).trans (hcell _ _ y1)
      have x2 := (hb.cell (p := ⟨g, off + (k * 4 + 2), none⟩) (by exact hgl)).trans (hcell _ _ y2)
      have x3 := (hb.cell (p := ⟨g, off + (k * 4 + 3), none⟩) (by exact hgl)).trans (hcell _ _ y3)
      rw [← Nat.add_assoc] at x1 x2 x3
      obtain ⟨⟨hfb, hfa⟩, hsb, hsa⟩ := HF.out rs[k] (List.getElem_mem hkp)
      have HT : Hid (stoodS T pts (rs.take (k + 1)) = stoodS T pts (rs.take k) ++ [(rs[k].brk, standQ T pts true rs[k].before, standQ T pts false rs[k].after)]) := stoodS_take hkp
      obtain ⟨r, hr⟩ : ∃ r, r = rs[k] := ⟨_, rfl⟩
      rw [← hr] at x0 x1 hPB hPA hfb hfa hsb hsa HT
      obtain ⟨bb, rfl⟩ := hPB.isPtr hfb
      obtain ⟨ab, rfl⟩ := hPA.isPtr hfa
      have GB : Hid (∀ W, RBox w wr.heap.size r.brk bb ab W → Calls Tryz.prog 49 #[.pointer (some ⟨bb, 0, none⟩), .map (some mb), .slice uo m uc, .bool true] W (PlSay W (standQ T pts true r.before))) := fun W hW =>
        standing_any T pts true bb r.before _ _ W (by have := HN0.out.2; have := hW.2.2.2.1.size; omega) (HZ.out.below hW.2.2.2.1 (by have := HN0.out.2; omega)) HN0.out.1 (HU.out.below hW.2.2.2.1) (HM.out.below hW.2.2.2.1 _ hW.2.2.2.1.size) (hPB.keep (keepsB hW.2.2.2.1)) hfb hsb
      have GA : Hid (∀ W, RBox w wr.heap.size r.brk bb ab W → Calls Tryz.prog 49 #[.pointer (some ⟨ab, 0, none⟩), .map (some mb), .slice uo m uc, .bool false] W (PlSay W (standQ T pts false r.after))) := fun W hW =>
        standing_any T pts false ab r.after _ _ W (by have := HN0.out.2; have := hW.2.2.2.1.size; omega) (HZ.out.below hW.2.2.2.1 (by have := HN0.out.2; omega)) HN0.out.1 (HU.out.below hW.2.2.2.1) (HM.out.below hW.2.2.2.1 _ hW.2.2.2.1.size) (hPA.keep (keepsB hW.2.2.2.1)) hfa hsa
      generalize standQ T pts true r.before = qb at GB HT
      generalize standQ T pts false r.after = qa at GA HT
      have hboxn := heap_alloc_new wr (.cells #[.int .i64 r.at_, .bool r.brk, .pointer (some ⟨bb, 0, none⟩), .pointer (some ⟨ab, 0, none⟩)] 50)
      have hba : Below w.heap.size w (wr.alloc (.cells #[.int .i64 r.at_, .bool r.brk, .pointer (some ⟨bb, 0, none⟩), .pointer (some ⟨ab, 0, none⟩)] 50)) := hb.alloc hb.size _
      have hbw : Below wr.heap.size wr (wr.alloc (.cells #[.int .i64 r.at_, .bool r.brk, .pointer (some ⟨bb, 0, none⟩), .pointer (some ⟨ab, 0, none⟩)] 50)) := below_alloc1 wr _
      have HS0 : Hid (RBox w wr.heap.size r.brk bb ab (wr.alloc (.cells #[.int .i64 r.at_, .bool r.brk, .pointer (some ⟨bb, 0, none⟩), .pointer (some ⟨ab, 0, none⟩)] 50))) :=
        ⟨cell_of_row _ _ 1 _ _ _ hboxn, cell_of_row _ _ 2 _ _ _ hboxn, cell_of_row _ _ 3 _ _ _ hboxn, hba, by simp⟩
      have HW0 : Hid (Below wr.heap.size wr (wr.alloc (.cells #[.int .i64 r.at_, .bool r.brk, .pointer (some ⟨bb, 0, none⟩), .pointer (some ⟨ab, 0, none⟩)] 50))) := hbw
      have hki : (k : Int) < n := by omega
      have hlen : (stoodS T pts (rs.take k)).length ≤ 1000 := by rw [stoodS_len]; simp; omega
      have HLEN : Hid ((stoodS T pts (rs.take k)).length ≤ 1000) := hlen
      clear hr hrow y0 y1 y2 y3 hcell hPB hPA hfb hfa hsb hsa hba hbw hboxn hlen hb
      go_upto_region 5 with fail
      generalize hwa : wr.alloc (.cells #[.int .i64 r.at_, .bool r.brk, .pointer (some ⟨bb, 0, none⟩), .pointer (some ⟨ab, 0, none⟩)] 50) = wa at HS0 HW0 ⊢
      have hS1 : RBox w wr.heap.size r.brk bb ab wa.drew := HS0.out.on (below_drewN (Below.refl _ _) 1)
      have HW1 : Hid (Below wr.heap.size wr wa.drew) := HW0.out.trans ((below_drewN (Below.refl _ _) 1).mono HW0.out.size)
      clear x0 x1 x2 x3 hwa HS0 HW0
      go_region_held3 (fun W => W.cell? ⟨wr.heap.size, 1, none⟩ = some (.bool r.brk) ∧ W.cell? ⟨wr.heap.size, 2, none⟩ = some (.pointer (some ⟨bb, 0, none⟩)) ∧ W.cell? ⟨wr.heap.size, 3, none⟩ = some (.pointer (some ⟨ab, 0, none⟩)) ∧ Below w.heap.size w W ∧ wr.heap.size < W.heap.size)
        (first | exact RBox.open_ (by assumption) | exact RBox.open_ (RBox.on (by assumption) (below_alloc1 _ _)))
        (first
          | (have hmark := hbb; clear hmark; go_at_call 49; refine (GA.out _ ?_).mono ?_; assumption; rintro e w4 ⟨⟨va, rfl, ba, rfl, p4, p5, p6⟩, hba⟩; have hva : Hid (Pl w4.heap.size w4 (.slice (some ⟨ba, 0, none⟩) 1 1) qa) := ⟨ba, rfl, p4, p5, p6⟩; clear p4 p5 p6; have hS4 := RBox.on (by assumption) hba)
          | (go_at_call 49; refine (GB.out _ ?_).mono ?_; assumption; rintro e w3 ⟨⟨vb, rfl, b3, rfl, p1, p2, p3⟩, hbb⟩; have hvb : Hid (Pl w3.heap.size w3 (.slice (some ⟨b3, 0, none⟩) 1 1) qb) := ⟨b3, rfl, p1, p2, p3⟩; clear p1 p2 p3; have hS3 := RBox.on (by assumption) hbb)
          | (obtain ⟨v5, w5, hr5, hrow5, hb5, ho5⟩ := SdRow.more (B := w.heap.size) (w := w4) (r.brk, qb, qa) (HRW.out.below ((HW1.out.trans (hbb.mono HW1.out.size)).trans (hba.mono (HW1.out.trans (hbb.mono HW1.out.size)).size))) (hvb.out.below hba _ hba.size) hva.out (by have := hS4.2.2.2.1.size; omega) (by have := HLEN.out; omega)
             have hS5 := RBox.kept hS4 hb5 (ho5 wr.heap.size (by have := hS4.2.2.2.2; omega) (fun e => by have := HRW.out.lt _ e; omega))
             refine step_append_run (by rfl) _ _ 103 (by rfl) _ _ _ _ (by rfl) (by rfl) hr5 ?_))
      have HT5 : Hid (stoodS T pts (rs.take (k + 1)) = stoodS T pts (rs.take k) ++ [(r.brk, qb, qa)]) := HT.out
      go_wp2_with fail
      case roundEnd => exact ⟨⟨k + 1, by omega, by go_num, by rw [HT5.out]; exact hrow5, hS5.2.2.2.1⟩, by simp [intOf]; omega⟩
    · obtain rfl : n = k := by omega
      clear hrow hb
      go_wp2_with fail
      go_ret
      exact ⟨⟨_, rfl, by rw [HR.out]; exact HRW.out⟩, HB.out⟩

end Go.Proofs.YtjbdlihlcoldlaaGreatDoor.M

namespace Go.Proofs.YtjbdlihlcoldlaaGreatDoor.M
open Go.RowKit Go.Shelf Go.Proofs.YtjbdlihlcoldlaaGreatDoor.Q

theorem enter76 (args : Array Value) (w : World) : (callFunc 76 args).run Tryz.prog w = .ok (.enter 76 args) w := by kernel_rfl

/-- The first of which it is so, by its number; -1: there is none. -/
def FirstAt (p : Sd → Bool) (L : List Sd) (r : Int) : Prop :=
  (∃ (k : Nat) (hk : k < L.length), r = k ∧ p L[k] = true ∧ ∀ j (hj : j < L.length), j < k → p L[j] = false) ∨ (r = -1 ∧ ∀ j (hj : j < L.length), p L[j] = false)

theorem saysS_at {L : List Sd} {i : Nat} {o : Bool} {k : Nat} (hk : k < L.length) (h : stands i L[k] = true) (hn : ∀ j (hj : j < L.length), j < k → stands i L[j] = false) : saysS L i o = L[k].1 := by
  have : L.find? (stands i) = some L[k] := by
    rw [List.find?_eq_some_iff_getElem]
    exact ⟨h, k, hk, rfl, fun j hj => by rw [hn j (by omega) hj]; rfl⟩
  unfold saysS
  rw [this]

theorem saysS_none {L : List Sd} {i : Nat} {o : Bool} (hn : ∀ j (hj : j < L.length), stands i L[j] = false) : saysS L i o = o := by
  have : L.find? (stands i) = none := by
    rw [List.find?_eq_none]
    intro x hx
    obtain ⟨k, hk, rfl⟩ := List.getElem_of_mem hx
    rw [hn k hk]
    decide
  unfold saysS
  rw [this]

/-- A row of rules, from wherever it begins. -/
theorem SdRow.cells {B : Nat} {w : World} {v : Value} {L : List Sd} (h : SdRow B w v L) :
    ∃ ao cp vs, v = .slice ao L.length cp ∧ L.length ≤ cp ∧ SdAt w vs L ∧ ∀ (_ : vs ≠ []), ∃ g off, ao = some ⟨g, off, none⟩ ∧ g < w.heap.size ∧ ∀ j u, vs[j]? = some u → w.cell? ⟨g, off + j, none⟩ = some u := by
  obtain ⟨vs, h1, h2, -⟩ := h
  have hr : Row (fun _ => True) w 150 3 v L.length vs := by
    refine ⟨?_, fun _ _ => trivial⟩
    obtain ⟨k1, k2 | ⟨g, cap, cur, rfl, hgl, hh, rest⟩⟩ := h1
    · exact ⟨k1, .inl k2⟩
    · exact ⟨k1, .inr ⟨g, cap, cur, rfl, Nat.zero_le _, hh, rest⟩⟩
  obtain ⟨ao, cp, e, hc, hg⟩ := row_cells hr
  exact ⟨ao, cp, vs, e, hc, h2, hg⟩

set_option maxHeartbeats 2000000 in
set_option maxRecDepth 100000 in
/-- Does a rule stand at the place? -/
theorem stands_ask (s : Sd) (bv av : Value) (i B : Nat) (hi : i < 64) (w : World) (hp : Pl w.heap.size w bv s.2.1) (hq : Pl w.heap.size w av s.2.2) (hB : B < w.heap.size) (hc : w.cell? ⟨B, 0, none⟩ = some (.int .i64 i)) :
    Calls Tryz.prog 76 #[.agg #[.bool s.1, bv, av], .pointer (some ⟨B, 0, none⟩)] w fun e w' => e = .returned (.bool (stands i s)) ∧ Below w.heap.size w w' := by
  obtain ⟨b, rfl, hb1, hb2, hb3⟩ := hp
  obtain ⟨a, rfl, ha1, ha2, ha3⟩ := hq
  have hba := below_alloc1 w (.cells #[.bool s.1, .slice (some ⟨b, 0, none⟩) 1 1, .slice (some ⟨a, 0, none⟩) 1 1] 150)
  have C1 := place_has_any b s.2.1 i hi hb3 _ ((hba.cell (p := ⟨b, 0, none⟩) (by exact hb1)).trans hb2)
  have C2 := place_has_any a s.2.2 i hi ha3 _ ((hba.cell (p := ⟨a, 0, none⟩) (by exact ha1)).trans ha2)
  have HBA : Hid (Below w.heap.size w _) := hba
  have hbox := heap_alloc_new w (.cells #[.bool s.1, .slice (some ⟨b, 0, none⟩) 1 1, .slice (some ⟨a, 0, none⟩) 1 1] 150)
  have n1 := loc_cell (k := 1) hbox rfl
  have n2 := loc_cell (k := 2) hbox rfl
  have hc' := (hba.cell (p := ⟨B, 0, none⟩) (by exact hB)).trans hc
  have HST : Hid (stands i s = (s.2.1.testBit i && s.2.2.testBit i)) := rfl
  generalize stands i s = q at HST ⊢
  generalize s.2.1.testBit i = q1 at C1 HST
  generalize s.2.2.testBit i = q2 at C2 HST
  generalize s.1 = brk at C1 C2 HBA n1 n2 hc' hbox hba ⊢
  clear hbox hba
  go_enter Tryz.func76, Tryz.ntmps76
  go_wp2_with fail
  refine C1.mono ?_
  rintro e w1 ⟨rfl, rfl⟩
  clear C1
  cases q1 with
  | false =>
    clear C2
    go_wp2_with fail
    go_ret
    exact ⟨by rw [HST.out]; rfl, HBA.out⟩
  | true =>
    go_wp2_with fail
    refine C2.mono ?_
    rintro e w2 ⟨rfl, rfl⟩
    clear C2
    go_wp2_with fail
    go_ret
    exact ⟨by rw [HST.out]; rfl, HBA.out⟩

set_option maxHeartbeats 2000000 in
set_option maxRecDepth 100000 in
theorem index_sd (L : List Sd) (v : Value) (i B : Nat) (hi : i < 64) (B0 : Nat) (w : World) (hL : SdRow B0 w v L) (hn : L.length ≤ 100000) (hB : B < w.heap.size) (hcB : w.cell? ⟨B, 0, none⟩ = some (.int .i64 i)) :
    Calls Tryz.prog 75 #[v, .func (.func 76) #[] #[.pointer (some ⟨B, 0, none⟩)]] w fun e w' => (∃ r : Int, e = .returned (.int .i64 r) ∧ FirstAt (stands i) L r) ∧ Below w.heap.size w w' := by
  obtain ⟨ao, cap, vs, rfl, hc, hat, hcell⟩ := hL.cells
  have eg := enter76
  have HC : Hid (SdAt w vs L ∧ (vs ≠ [] → ∃ g off, ao = some ⟨g, off, none⟩ ∧ g < w.heap.size ∧ ∀ j u, vs[j]? = some u → w.cell? ⟨g, off + j, none⟩ = some u)) := ⟨hat, hcell⟩
  have HCB : Hid (B < w.heap.size ∧ w.cell? ⟨B, 0, none⟩ = some (.int .i64 i)) := ⟨hB, hcB⟩
  obtain ⟨N, hN⟩ : ∃ N, N = L.length := ⟨_, rfl⟩
  have HN : Hid (N = L.length) := hN
  rw [← hN] at hn hc ⊢
  clear hcell hat hN hL hB hcB
  go_enter Tryz.func75, Tryz.ntmps75
  go_wp2_with fail
  go_loopw [8] (fun x wr => ∃ k : Nat, x = .int .i64 k ∧ k ≤ N ∧ Below w.heap.size w wr ∧ ∀ j (hj : j < L.length), j < k → stands i L[j] = false) (fun x _ => N - (intOf x).toNat)
  case atStart => exact ⟨0, rfl, Nat.zero_le _, Below.refl _ _, fun j hj h => absurd h (by omega)⟩
  case round =>
    obtain ⟨k, rfl, hk, hb, hnone⟩ := hrel
    have HB : Hid (Below w.heap.size w wr) := hb
    have HNO : Hid (∀ j (hj : j < L.length), j < k → stands i L[j] = false) := hnone
    clear hb hnone
    by_cases hlt : k < N
    · have hks : k < L.length := by have := HN.out; omega
      obtain ⟨bv, av, y0, y1, y2, hPB, hPA⟩ := HC.out.1.get k hks
      obtain ⟨g, off, rfl, hgl, hcs⟩ := HC.out.2 (fun e => by rw [e] at y0; simp at y0)
      have x0 := (HB.out.cell (p := ⟨g, off + k * 3, none⟩) (by exact hgl)).trans (hcs _ _ y0)
      have x1 := (HB.out.cell (p := ⟨g, off + (k * 3 + 1), none⟩) (by exact hgl)).trans (hcs _ _ y1)
      have x2 := (HB.out.cell (p := ⟨g, off + (k * 3 + 2), none⟩) (by exact hgl)).trans (hcs _ _ y2)
      rw [← Nat.add_assoc] at x1 x2
      obtain ⟨s, hs⟩ : ∃ s, s = L[k] := ⟨_, rfl⟩
      rw [← hs] at x0 hPB hPA
      have C := stands_ask s bv av i B hi wr (hPB.below HB.out _ HB.out.size) (hPA.below HB.out _ HB.out.size) (Nat.lt_of_lt_of_le HCB.out.1 HB.out.size) ((HB.out.cell (p := ⟨B, 0, none⟩) (by exact HCB.out.1)).trans HCB.out.2)
      have HP2 : Hid (stands i L[k] = false → ∀ j (hj : j < L.length), j < k + 1 → stands i L[j] = false) := fun h j hj hlt => by
        rcases Nat.lt_or_ge j k with h1 | h1
        · exact HNO.out j hj h1
        · obtain rfl : j = k := by omega
          exact h
      have HKS : Hid (k < L.length) := hks
      have HS0 : Hid (stands i s = stands i L[k]) := congrArg (stands i) hs
      generalize stands i s = q at C HS0
      have HQ : Hid (q = stands i L[k]) := HS0.out
      obtain ⟨c1, rfl, -⟩ := hPB
      obtain ⟨c2, rfl, -⟩ := hPA
      generalize s.1 = brk at C x0
      clear hcs y0 y1 y2 hs HS0
      have hkz : (k : Int) < (N : Int) := by omega
      go_wp2_with fail
      refine C.mono ?_
      rintro e w1 ⟨rfl, hb1⟩
      have HB1 : Hid (Below w.heap.size w w1) := HB.out.trans (hb1.mono HB.out.size)
      clear C x0 x1 x2 hb1
      cases q with
      | true =>
        go_wp2_with fail
        go_ret
        exact ⟨⟨k, rfl, .inl ⟨k, HKS.out, rfl, HQ.out.symm, HNO.out⟩⟩, HB1.out⟩
      | false =>
        go_wp2_with fail
        case roundEnd => exact ⟨⟨k + 1, by go_num, by omega, HB1.out, HP2.out HQ.out.symm⟩, by simp [intOf]; omega⟩
    · have hkz : ¬ ((k : Int) < (N : Int)) := by omega
      go_wp2_with fail
      go_ret
      exact ⟨⟨-1, rfl, .inr ⟨rfl, fun j hj => HNO.out j hj (by have := HN.out; omega)⟩⟩, HB.out⟩

set_option maxHeartbeats 2000000 in
set_option maxRecDepth 100000 in
theorem says_any (L : List Sd) (v : Value) (i : Nat) (other : Bool) (hi : i < 64) (B0 : Nat) (w : World) (hL : SdRow B0 w v L) (hn : L.length ≤ 100000) :
    Calls Tryz.prog 46 #[v, .int .i64 i, .bool other] w fun e w' => e = .returned (.bool (saysS L i other)) ∧ Below w.heap.size w w' := by
  have hba := below_alloc1 w (.cells #[.int .i64 i] 3)
  have C := index_sd L v i w.heap.size hi B0 (w.alloc (.cells #[.int .i64 i] 3)) (hL.below hba) hn (by simp) (by simp)
  have HBA : Hid (Below w.heap.size w (w.alloc (.cells #[.int .i64 i] 3))) := hba
  obtain ⟨ao, cap, vs, rfl, hc, hat, hcell⟩ := hL.cells
  have HC : Hid (SdAt w vs L ∧ (vs ≠ [] → ∃ g off, ao = some ⟨g, off, none⟩ ∧ g < w.heap.size ∧ ∀ j u, vs[j]? = some u → w.cell? ⟨g, off + j, none⟩ = some u)) := ⟨hat, hcell⟩
  obtain ⟨N, hN⟩ : ∃ N, N = L.length := ⟨_, rfl⟩
  have HN : Hid (N = L.length) := hN
  rw [← hN] at hn hc C ⊢
  clear hcell hat hN hL hba
  go_enter Tryz.func46, Tryz.ntmps46
  go_wp2_with fail
  refine C.mono ?_
  rintro e w1 ⟨⟨r, rfl, hr⟩, hb⟩
  have HB1 : Hid (Below w.heap.size w w1) := HBA.out.trans (hb.mono HBA.out.size)
  clear C hb
  rcases hr with ⟨k, hk, rfl, h1, h2⟩ | ⟨rfl, h1⟩
  · have HS : Hid (saysS L i other = L[k].1) := saysS_at hk h1 h2
    obtain ⟨bv, av, y0, y1, y2, hPB, hPA⟩ := HC.out.1.get k hk
    obtain ⟨g, off, rfl, hgl, hcs⟩ := HC.out.2 (fun e => by rw [e] at y0; simp at y0)
    have x0 := (HB1.out.cell (p := ⟨g, off + k * 3, none⟩) (by exact hgl)).trans (hcs _ _ y0)
    have hkn : (k : Int) < (N : Int) := by have := HN.out; omega
    have hk0 : ¬ ((k : Int) < 0) := by omega
    generalize L[k].1 = brk at HS x0
    clear hcs y0 y1 y2 hPB hPA h1 h2 hk
    go_wp2_with fail
    go_ret
    exact ⟨by rw [HS.out]; rfl, HB1.out⟩
  · have HS : Hid (saysS L i other = other) := saysS_none h1
    clear h1
    go_wp2_with fail
    go_ret
    exact ⟨by rw [HS.out]; rfl, HB1.out⟩

end Go.Proofs.YtjbdlihlcoldlaaGreatDoor.M
