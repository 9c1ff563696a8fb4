/- The contracts of small and of matched. -/
import Derived.Test.YtddjppkpgflbjaaDoorVmK
namespace Go.Proofs.YtddjppkpgflbjaaDoor
open Go.RowKit Go.Shelf

theorem many_any (v : Value) (s : List RS.Rg) (w : World) (hv : RgAt w.heap.size w v s) :
    Calls Tryd.prog 40 (#[v] ++ #[]) w fun e w' => e = .returned (.bool (decide (20 < s.length))) ∧ Below w.heap.size w w' := by
  obtain ⟨ao, cap, rfl, -, -⟩ := hv
  generalize s.length = n
  go_enter Tryd.func40, Tryd.ntmps40
  go_wp2_with fail
  go_ret
  exact ⟨ret_bool (by rw [Bool.eq_iff_iff]; simp; omega), Below.refl _ _⟩

/-- Code is little enough to be held. -/
def isSmall (c : VM.Co) : Bool := decide (c.sets.length ≤ 20) && decide (c.ins.length ≤ 60) && !c.sets.any fun s => decide (20 < s.length)

set_option maxHeartbeats 2000000 in
set_option maxRecDepth 100000 in
theorem small_any (sv iv : Value) (c : VM.Co) (w : World) (F : CoAt w.heap.size w sv iv c) :
    Calls Tryd.prog 17 #[.agg #[sv, iv]] w fun e w' => e = .returned (.bool (isSmall c)) ∧ Below w.heap.size w w' := by
  have hb0 : Below w.heap.size w (w.alloc (.cells #[sv, iv] 25)) := (Below.refl _ w).alloc (Nat.le_refl _) _
  have C : c.sets.length ≤ 20 → Calls Tryd.prog 39 #[sv, .func (.func 40) #[] #[]] (w.alloc (.cells #[sv, iv] 25)) fun e w' => e = .returned (.bool (c.sets.any fun s => decide (20 < s.length))) ∧ Below (w.alloc (.cells #[sv, iv] 25)).heap.size (w.alloc (.cells #[sv, iv] 25)) w' := fun h =>
    contains_sets 40 #[] enters40 sv c.sets (fun s => decide (20 < s.length)) _ (F.1.below hb0 _ hb0.size) (by omega) (fun k _ u W _ hu => many_any u _ W hu)
  have HA : Hid (isSmall c = (decide (c.sets.length ≤ 20) && decide (c.ins.length ≤ 60) && !c.sets.any fun s => decide (20 < s.length))) := rfl
  have HB0 : Hid (Below w.heap.size w (w.alloc (.cells #[sv, iv] 25))) := hb0
  obtain ⟨sao, scap, hsv, -, -⟩ := F.1
  obtain ⟨iao, icap, hiv, -, -⟩ := F.2
  clear F hb0
  generalize isSmall c = A at HA ⊢
  generalize (c.sets.any fun s => decide (20 < s.length)) = q at C HA
  generalize c.sets.length = m at *
  generalize c.ins.length = n at *
  by_cases h1 : m ≤ 20
  · by_cases h2 : n ≤ 60
    · have D := C h1
      clear C
      subst hsv hiv
      have h1' : (m : Int) ≤ 20 := by omega
      have h2' : (n : Int) ≤ 60 := by omega
      go_enter Tryd.func17, Tryd.ntmps17
      go_wp2_with fail
      refine D.mono ?_
      rintro e w1 ⟨rfl, hb⟩
      have HB : Hid (Below w.heap.size w w1) := HB0.out.trans (hb.mono HB0.out.size)
      clear D hb
      go_wp2_with fail
      go_ret
      exact ⟨ret_bool (by rw [HA.out]; simp [h1, h2]), HB.out⟩
    · clear C
      subst hsv hiv
      have h1' : (m : Int) ≤ 20 := by omega
      have h2' : ¬ (n : Int) ≤ 60 := by omega
      go_enter Tryd.func17, Tryd.ntmps17
      go_wp2_with fail
      go_ret
      exact ⟨ret_bool (by rw [HA.out]; simp [h2]), HB0.out⟩
  · clear C
    subst hsv hiv
    have h1' : ¬ (m : Int) ≤ 20 := by omega
    go_enter Tryd.func17, Tryd.ntmps17
    go_wp2_with fail
    go_ret
    exact ⟨ret_bool (by rw [HA.out]; simp [h1]), HB0.out⟩

/-- The code of the fact. -/
def factC : VM.Co := ⟨[[(97, 97)]], [⟨1, 0, 0⟩, ⟨2, 0, 2⟩, ⟨5, 0, 0⟩]⟩

theorem fact_ab : answer factC [97, 98] = .tuple #[.bool true, .int .i64 4, .nilIface] := by
  have h1 : VM.right factC = true := by decide
  have h2 : VM.run factC [97, 98] [0] = (true, 4) := by decide
  unfold answer
  rw [h1, h2]
  rfl

theorem fact_b : answer factC [98] = .tuple #[.bool false, .int .i64 1, .nilIface] := by
  have h1 : VM.right factC = true := by decide
  have h2 : VM.run factC [98] [0] = (false, 1) := by decide
  unfold answer
  rw [h1, h2]
  rfl

abbrev A1 : Obj := .cells #[.int .i64 97, .int .i64 97] 78
abbrev A2 (n : Nat) : Obj := .cells #[.slice (some ⟨n, 0, none⟩) 1 1] 55
abbrev A3 : Obj := .cells #[.int .i64 1, .int .i64 0, .int .i64 0, .int .i64 2, .int .i64 0, .int .i64 2, .int .i64 5, .int .i64 0, .int .i64 0] 50

theorem fact_world (w : World) : (((w.alloc A1).alloc (A2 w.heap.size)).alloc A3).heap[w.heap.size]? = some A1 ∧ (((w.alloc A1).alloc (A2 w.heap.size)).alloc A3).heap[w.heap.size + 1]? = some (A2 w.heap.size) ∧ (((w.alloc A1).alloc (A2 w.heap.size)).alloc A3).heap[w.heap.size + 1 + 1]? = some A3 ∧
    (((w.alloc A1).alloc (A2 w.heap.size)).alloc A3).heap.size = w.heap.size + 1 + 1 + 1 := by
  have s1 : (w.alloc A1).heap.size = w.heap.size + 1 := by simp
  have s2 : ((w.alloc A1).alloc (A2 w.heap.size)).heap.size = w.heap.size + 1 + 1 := by simp
  refine ⟨?_, ?_, ?_, by simp⟩
  · rw [heap_alloc_old _ _ (by omega), heap_alloc_old _ _ (by omega)]
    exact heap_alloc_new _ _
  · rw [heap_alloc_old _ _ (by omega), ← s1]
    exact heap_alloc_new _ _
  · rw [← s2]
    exact heap_alloc_new _ _

theorem fact_small (w W : World) (hB : Below (w.heap.size + 1 + 1 + 1) (((w.alloc A1).alloc (A2 w.heap.size)).alloc A3) W) :
    Small W.heap.size W (.slice (some ⟨w.heap.size + 1, 0, none⟩) 1 1) (.slice (some ⟨w.heap.size + 1 + 1, 0, none⟩) 3 3) factC := by
  obtain ⟨h1, h2, h3, h4⟩ := fact_world w
  have k1 := (hB.block _ (show w.heap.size < w.heap.size + 1 + 1 + 1 by omega)).trans h1
  have k2 := (hB.block _ (show w.heap.size + 1 < w.heap.size + 1 + 1 + 1 by omega)).trans h2
  have k3 := (hB.block _ (show w.heap.size + 1 + 1 < w.heap.size + 1 + 1 + 1 by omega)).trans h3
  have k4 := hB.size
  rw [h4] at k4
  refine ⟨⟨⟨_, 1, rfl, Nat.le_refl _, fun _ => ⟨w.heap.size + 1, 0, rfl, by omega, fun k hk => ?_⟩⟩, ⟨_, 3, rfl, Nat.le_refl _, fun _ => ⟨w.heap.size + 1 + 1, 0, rfl, by omega, fun k hk => ?_⟩⟩⟩, by decide, by decide, fun s hs => ?_⟩
  · match k, hk with
    | 0, _ =>
      refine ⟨_, cell_of_row W _ 0 _ _ _ k2, _, 1, rfl, ⟨Nat.le_refl _, fun h => by cases h⟩, fun _ => ⟨w.heap.size, 0, rfl, by omega, fun j hj => ?_⟩⟩
      match j, hj with
      | 0, _ => exact ⟨cell_of_row W _ 0 _ _ _ k1, cell_of_row W _ 1 _ _ _ k1⟩
  · match k, hk with
    | 0, _ => exact ⟨cell_of_row W _ 0 _ _ _ k3, cell_of_row W _ 1 _ _ _ k3, cell_of_row W _ 2 _ _ _ k3⟩
    | 1, _ => exact ⟨cell_of_row W _ 3 _ _ _ k3, cell_of_row W _ 4 _ _ _ k3, cell_of_row W _ 5 _ _ _ k3⟩
    | 2, _ => exact ⟨cell_of_row W _ 6 _ _ _ k3, cell_of_row W _ 7 _ _ _ k3, cell_of_row W _ 8 _ _ _ k3⟩
  · have : s = [(97, 97)] := by simpa [factC] using hs
    rw [this]
    decide

theorem pts_new (w : World) (l : List Int) (vs : Array Value) (n : Nat) (hn : n = l.length) (hv : vs.toList = l.map fun x => Value.int .i64 x) :
    PtsAt (w.alloc (.cells vs 3)).heap.size (w.alloc (.cells vs 3)) (.slice (some ⟨w.heap.size, 0, none⟩) n n) l := by
  subst hn
  refine ⟨_, _, rfl, Nat.le_refl _, fun _ => ⟨w.heap.size, 0, rfl, by simp, fun k hk => ?_⟩⟩
  rw [World.cell?_alloc_at _ _ _ _ rfl, Nat.zero_add, ← Array.getElem?_toList, hv]
  simp [hk]

set_option maxHeartbeats 4000000 in
set_option maxRecDepth 100000 in
theorem matched_any (w : World) : Calls Tryd.prog 18 #[] w fun e w' => e = .returned (.bool true) ∧ Below w.heap.size w w' := by
  obtain ⟨-, -, -, h4⟩ := fact_world w
  obtain ⟨WC, hWC⟩ : ∃ WC, WC = (((w.alloc A1).alloc (A2 w.heap.size)).alloc A3).alloc (.cells #[.slice (some ⟨w.heap.size + 1, 0, none⟩) 1 1, .slice (some ⟨w.heap.size + 1 + 1, 0, none⟩) 3 3] 25) := ⟨_, rfl⟩
  have hb3 : Below (w.heap.size + 1 + 1 + 1) (((w.alloc A1).alloc (A2 w.heap.size)).alloc A3) WC := by rw [hWC]; exact (Below.refl _ _).alloc (by omega) _
  have hbw : Below w.heap.size w WC := by
    rw [hWC]
    exact ((((Below.refl _ w).alloc (Nat.le_refl _) _).alloc (by simp) _).alloc (by simp; omega) _).alloc (by simp; omega) _
  have hs : WC.heap.size = w.heap.size + 1 + 1 + 1 + 1 := by rw [hWC]; simp
  have hc0 : WC.cell? ⟨w.heap.size + 1 + 1 + 1, 0, none⟩ = some (.slice (some ⟨w.heap.size + 1, 0, none⟩) 1 1) := by rw [hWC]; exact World.cell?_alloc_at _ _ _ _ h4.symm
  have hc1 : WC.cell? ⟨w.heap.size + 1 + 1 + 1, 1, none⟩ = some (.slice (some ⟨w.heap.size + 1 + 1, 0, none⟩) 3 3) := by rw [hWC]; exact World.cell?_alloc_at _ _ _ _ h4.symm
  have hba : Below WC.heap.size WC (WC.alloc (.cells #[.int .i64 97, .int .i64 98] 3)) := (Below.refl _ _).alloc (Nat.le_refl _) _
  have C := match_any _ _ _ factC [97, 98] _ (fact_small w _ (hb3.trans (hba.mono (by omega)))) (pts_new WC [97, 98] #[.int .i64 97, .int .i64 98] 2 rfl rfl) (by decide)
  rw [fact_ab, hs] at C
  have HWC : Hid (WC = (((w.alloc A1).alloc (A2 w.heap.size)).alloc A3).alloc (.cells #[.slice (some ⟨w.heap.size + 1, 0, none⟩) 1 1, .slice (some ⟨w.heap.size + 1 + 1, 0, none⟩) 3 3] 25)) := hWC
  have HB : Hid (Below (w.heap.size + 1 + 1 + 1) (((w.alloc A1).alloc (A2 w.heap.size)).alloc A3) WC ∧ Below w.heap.size w WC ∧ Below WC.heap.size WC (WC.alloc (.cells #[.int .i64 97, .int .i64 98] 3))) := ⟨hb3, hbw, hba⟩
  have HS : Hid (WC.heap.size = w.heap.size + 1 + 1 + 1 + 1) := hs
  clear hWC hb3 hbw h4 hs hba
  go_enter Tryd.func18, Tryd.ntmps18
  go_wp2_with fail
  rw [← HWC.out]
  refine C.mono ?_
  rintro e w1 ⟨rfl, hb1⟩
  have hbs := hb1.size
  have hb2 : Below WC.heap.size WC w1 := HB.out.2.2.trans (hb1.mono (by simp))
  have c0 := (hb2.cell (p := ⟨w.heap.size + 1 + 1 + 1, 0, none⟩) (by rw [HS.out]; show w.heap.size + 1 + 1 + 1 < _; omega)).trans hc0
  have c1 := (hb2.cell (p := ⟨w.heap.size + 1 + 1 + 1, 1, none⟩) (by rw [HS.out]; show w.heap.size + 1 + 1 + 1 < _; omega)).trans hc1
  have hb3 : Below (w.heap.size + 1 + 1 + 1) (((w.alloc A1).alloc (A2 w.heap.size)).alloc A3) (w1.alloc (.cells #[.int .i64 98] 3)) := (HB.out.1.trans (hb2.mono (by rw [HS.out]; omega))).trans ((Below.refl _ w1).alloc (by have := hb2.size; rw [HS.out] at this; omega) _)
  have D := match_any _ _ _ factC [98] _ (fact_small w _ hb3) (pts_new w1 [98] #[.int .i64 98] 1 rfl rfl) (by decide)
  rw [fact_b] at D
  have HBW : Hid (Below w.heap.size w (w1.alloc (.cells #[.int .i64 98] 3))) := (HB.out.2.1.trans (hb2.mono (by rw [HS.out]; omega))).trans ((Below.refl _ w1).alloc (by have := hb2.size; rw [HS.out] at this; omega) _)
  clear C hb1 hb2 hb3 hc0 hc1 hbs
  go_wp2_with fail
  refine D.mono ?_
  rintro e w2 ⟨rfl, hb4⟩
  have HB4 : Hid (Below w.heap.size w w2) := HBW.out.trans (hb4.mono HBW.out.size)
  clear D hb4 c0 c1
  go_wp2_with fail
  go_ret
  exact ⟨rfl, HB4.out⟩

end Go.Proofs.YtddjppkpgflbjaaDoor
