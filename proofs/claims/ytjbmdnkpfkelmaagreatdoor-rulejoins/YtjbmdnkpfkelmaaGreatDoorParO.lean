/- The contract of rule. -/
import Derived.Test.YtjbmdnkpfkelmaaGreatDoorParN
import Derived.Test.YtjbmdnkpfkelmaaGreatDoorPlain
namespace Go.Proofs.YtjbmdnkpfkelmaaGreatDoor.Q
open Go.RowKit Go.Shelf

theorem grown_loc {w a b : World} {pb n : Nat} (h1 : w.grownBy a (some pb)) (h2 : a.grownBy b (some n)) (hn : w.heap.size ≤ n) : w.grownBy b (some pb) :=
  ⟨h2.os.trans h1.os, h2.tape.trans h1.tape, h2.output.trans h1.output, Nat.le_trans h1.size h2.size, fun k hk hne => (h2.block k (Nat.lt_of_lt_of_le hk h1.size) (fun e => by cases e; omega)).trans (h1.block k hk hne)⟩

theorem loc_cell {w : World} {b k : Nat} {vs : Array Value} {ty : TypeId} {v : Value} (h : w.heap[b]? = some (.cells vs ty)) (hk : vs[k]? = some v) : w.cell? ⟨b, k, none⟩ = some v := by
  simp [World.cell?, h, hk]

theorem loc_free {w : World} {b k : Nat} {vs : Array Value} {ty : TypeId} (h : w.heap[b]? = some (.cells vs ty)) : w.frozen? ⟨b, k, none⟩ = false := by
  simp [World.frozen?, h]

theorem grown_none {w w' : World} (h : w.grownBy w' none) (g : Option Nat) : w.grownBy w' g :=
  ⟨h.os, h.tape, h.output, h.size, fun k hk _ => h.block k hk (by simp)⟩

theorem size48 : (Tryz.prog.info? 48).map (·.size) = some 4 := by kernel_rfl

theorem row4_set {w : World} {g : Nat} {ty : TypeId} {p q r s : Value} (h : w.heap[g]? = some (.cells #[p, q, r, s] ty)) (a b c d : Value) :
    ((((w.setCell ⟨g, 0, none⟩ a).setCell ⟨g, 1, none⟩ b).setCell ⟨g, 2, none⟩ c).setCell ⟨g, 3, none⟩ d).heap[g]? = some (.cells #[a, b, c, d] ty) :=
  heap_setCell_same _ g 3 _ ty _ (heap_setCell_same _ g 2 _ ty _ (heap_setCell_same _ g 1 _ ty _ (heap_setCell_same w g 0 _ ty _ h)))

theorem grown_set4 (w : World) (g : Nat) (a b c d : Value) :
    w.grownBy ((((w.setCell ⟨g, 0, none⟩ a).setCell ⟨g, 1, none⟩ b).setCell ⟨g, 2, none⟩ c).setCell ⟨g, 3, none⟩ d) (some g) :=
  (((grown_set a).trans (grown_set b)).trans (grown_set c)).trans (grown_set d)

set_option maxHeartbeats 2000000 in
set_option maxRecDepth 100000 in
theorem rule_any (pb c : Nat) (ts : List RP.Tok) (w : World) (hf : RP.Fine ts) (h5 : 5 < pb) (hK : KT w) (h : PS pb ts c w) :
    Calls Tryz.prog 20 #[.pointer (some ⟨pb, 0, none⟩)] w (Step pb c w (RP.ruleP setOf c ts) fun x v w' => ∃ bv av, v = .agg #[.int .i64 x.at_, .bool x.brk, bv, av] ∧ IsPtr bv ∧ PAt (New w) w' [bv] x.before ∧ IsPtr av ∧ PAt (New w) w' [av] x.after) := by
  have hl := h.lt
  obtain ⟨t, r, rfl⟩ := hf.cons
  obtain ⟨tb, off, cap, c0, c1, f0, f1, hc, hcm, t0, t1, t2, htb, htp, -⟩ := h.open
  have HPS : Hid (PS pb (t :: r) c w) := h
  have HK : Hid (KT w) := hK
  clear h hK
  go_enter Tryz.func20, Tryz.ntmps20
  go_wp2_with fail
  have hgW : w.grownBy ((w.alloc (.cells #[.int .i64 0, .bool false, .pointer none, .pointer none] 48)).alloc (.cells #[.int .i64 t.at_, .bool false, .pointer none, .pointer none] 48)) none := (World.grownBy_alloc _ _ _).trans (World.grownBy_alloc _ _ _)
  have hL0 : ((w.alloc (.cells #[.int .i64 0, .bool false, .pointer none, .pointer none] 48)).alloc (.cells #[.int .i64 t.at_, .bool false, .pointer none, .pointer none] 48)).heap[w.heap.size]? = some (.cells #[.int .i64 0, .bool false, .pointer none, .pointer none] 48) := by
    rw [heap_alloc_old _ _ (by simp)]; exact heap_alloc_new _ _
  have hL1 : ((w.alloc (.cells #[.int .i64 0, .bool false, .pointer none, .pointer none] 48)).alloc (.cells #[.int .i64 t.at_, .bool false, .pointer none, .pointer none] 48)).heap[w.heap.size + 1]? = some (.cells #[.int .i64 t.at_, .bool false, .pointer none, .pointer none] 48) := by
    have := heap_alloc_new (w.alloc (.cells #[.int .i64 0, .bool false, .pointer none, .pointer none] 48)) (.cells #[.int .i64 t.at_, .bool false, .pointer none, .pointer none] 48)
    simpa using this
  have hsz : ((w.alloc (.cells #[.int .i64 0, .bool false, .pointer none, .pointer none] 48)).alloc (.cells #[.int .i64 t.at_, .bool false, .pointer none, .pointer none] 48)).heap.size = w.heap.size + 2 := by simp
  generalize hW1 : (w.alloc (.cells #[.int .i64 0, .bool false, .pointer none, .pointer none] 48)).alloc (.cells #[.int .i64 t.at_, .bool false, .pointer none, .pointer none] 48) = W1 at hgW hL0 hL1 hsz ⊢
  clear hW1 c0 c1 f0 f1 t0 t1 t2
  have hB := breaks_any pb t r c W1 (HPS.out.grown hgW)
  cases hb : RP.breaksP c (t :: r) with
  | error b =>
    rw [hb] at hB
    have HR : Hid (RP.ruleP setOf c (t :: r) = .error b) := by show _ = _; rw [RP.ruleP, hb]
    clear hb
    refine hB.mono ?_
    rintro e w1 ⟨hg1, b', rfl, k1, k2, k3⟩
    go_wp2_with fail
    exact ⟨rfl, Step.map HR.out (grown_none hgW _) hg1 ⟨b', rfl, k1, k2, k3⟩⟩
  | ok x =>
    obtain ⟨k, q⟩ := x
    rw [hb] at hB
    have hqf := (RP.breaksP_fine _ _ _ hf hb).1
    have HR1 : Hid (RP.breaksP c (t :: r) = .ok (k, q)) := hb
    clear hb
    refine hB.mono ?_
    rintro e w1 ⟨hg1, hp1, v, rfl, rfl⟩
    have hs1 := hg1.size
    have hM0 := (hg1.block w.heap.size (by omega) (fun e => by cases e; omega)).trans hL0
    have hM1 := (hg1.block (w.heap.size + 1) (by omega) (fun e => by cases e; omega)).trans hL1
    have g1 := loc_cell (k := 1) hM1 rfl
    have z1 := loc_free (k := 1) hM1
    have HP1 : Hid (PS pb q c w1) := hp1
    have HG1 : Hid (w.grownBy w1 (some pb)) := (grown_none hgW _).trans hg1
    clear hp1 hB hL0 hL1 hgW hg1
    go_wp2_with fail
    have hgS : w1.grownBy (w1.setCell ⟨w.heap.size + 1, 1, none⟩ (.bool k)) (some (w.heap.size + 1)) := grown_set _
    have hN1 : (w1.setCell ⟨w.heap.size + 1, 1, none⟩ (.bool k)).heap[w.heap.size + 1]? = some (.cells #[.int .i64 t.at_, .bool k, .pointer none, .pointer none] 48) := heap_setCell_same w1 _ 1 _ 48 _ hM1
    have hN0 : (w1.setCell ⟨w.heap.size + 1, 1, none⟩ (.bool k)).heap[w.heap.size]? = some (.cells #[.int .i64 0, .bool false, .pointer none, .pointer none] 48) := (hgS.block _ (by omega) (fun e => by simp at e)).trans hM0
    have hs2 : w.heap.size + 2 ≤ (w1.setCell ⟨w.heap.size + 1, 1, none⟩ (.bool k)).heap.size := by have := hgS.size; omega
    have HP2 : Hid (PS pb q c (w1.setCell ⟨w.heap.size + 1, 1, none⟩ (.bool k))) := HP1.out.other hgS fun j hj => by cases hj; omega
    have HG2 : Hid (w.grownBy (w1.setCell ⟨w.heap.size + 1, 1, none⟩ (.bool k)) (some pb)) := grown_loc HG1.out hgS (by omega)
    generalize hW2 : w1.setCell ⟨w.heap.size + 1, 1, none⟩ (.bool k) = W2 at hgS hN1 hN0 hs2 HP2 HG2 ⊢
    clear hW2 hgS hM0 hM1 g1 z1 HP1 HG1
    have hC := pattern_any 9 0 rfl pb c q W2 hqf h5 (HK.out.grown HG2.out h5) HP2.out
    dsimp only at hC
    cases hb2 : RP.patP setOf c 9 q with
    | error b =>
      rw [hb2] at hC
      have HR : Hid (RP.ruleP setOf c (t :: r) = .error b) := by show _ = _; rw [RP.ruleP, HR1.out]; dsimp only; rw [hb2]
      clear hb2
      refine hC.mono ?_
      rintro e w3 ⟨hg3, b', rfl, k1, k2, k3⟩
      go_wp2_with fail
      exact ⟨rfl, Step.map HR.out HG2.out hg3 ⟨b', rfl, k1, k2, k3⟩⟩
    | ok x =>
      obtain ⟨x, q2⟩ := x
      rw [hb2] at hC
      have hqf2 := (RP.patP_fine 9 _ _ _ hqf hb2).1
      have HR2 : Hid (RP.patP setOf c 9 q = .ok (x, q2)) := hb2
      clear hb2
      refine hC.mono ?_
      rintro e w3 ⟨hg3, hp3, v3, rfl, ⟨bb, rfl⟩, hv3⟩
      have hs3 := hg3.size
      have hM0 := (hg3.block w.heap.size (by omega) (fun e => by cases e; omega)).trans hN0
      have hM1 := (hg3.block (w.heap.size + 1) (by omega) (fun e => by cases e; omega)).trans hN1
      have g2 := loc_cell (k := 2) hM1 rfl
      have z2 := loc_free (k := 2) hM1
      have HP3 : Hid (PS pb q2 c w3) := hp3
      have HG3 : Hid (w.grownBy w3 (some pb)) := HG2.out.trans hg3
      have HV3 : Hid (PAt (New W2) w3 [.pointer (some ⟨bb, 0, none⟩)] x) := hv3
      clear hp3 hv3 hC hN0 hN1 hg3
      go_wp2_with fail
      have hgS : w3.grownBy (w3.setCell ⟨w.heap.size + 1, 2, none⟩ (.pointer (some ⟨bb, 0, none⟩))) (some (w.heap.size + 1)) := grown_set _
      have hN1 : (w3.setCell ⟨w.heap.size + 1, 2, none⟩ (.pointer (some ⟨bb, 0, none⟩))).heap[w.heap.size + 1]? = some (.cells #[.int .i64 t.at_, .bool k, .pointer (some ⟨bb, 0, none⟩), .pointer none] 48) := heap_setCell_same w3 _ 2 _ 48 _ hM1
      have hN0 : (w3.setCell ⟨w.heap.size + 1, 2, none⟩ (.pointer (some ⟨bb, 0, none⟩))).heap[w.heap.size]? = some (.cells #[.int .i64 0, .bool false, .pointer none, .pointer none] 48) := (hgS.block _ (by omega) (fun e => by simp at e)).trans hM0
      have hs4 : W2.heap.size ≤ (w3.setCell ⟨w.heap.size + 1, 2, none⟩ (.pointer (some ⟨bb, 0, none⟩))).heap.size := by have := hgS.size; omega
      have HP4 : Hid (PS pb q2 c (w3.setCell ⟨w.heap.size + 1, 2, none⟩ (.pointer (some ⟨bb, 0, none⟩)))) := HP3.out.other hgS fun j hj => by cases hj; omega
      have HG4 : Hid (w.grownBy (w3.setCell ⟨w.heap.size + 1, 2, none⟩ (.pointer (some ⟨bb, 0, none⟩))) (some pb)) := grown_loc HG3.out hgS (by omega)
      have HV4 : Hid (PAt (New W2) (w3.setCell ⟨w.heap.size + 1, 2, none⟩ (.pointer (some ⟨bb, 0, none⟩))) [.pointer (some ⟨bb, 0, none⟩)] x) := HV3.out.keep (Keeps.grown hgS fun b hb e => by cases e; unfold New at hb; omega)
      generalize hW4 : w3.setCell ⟨w.heap.size + 1, 2, none⟩ (.pointer (some ⟨bb, 0, none⟩)) = W4 at hgS hN1 hN0 hs4 HP4 HG4 HV4 ⊢
      clear hW4 hgS hM0 hM1 g2 z2 HP3 HG3 HV3
      obtain ⟨t5, q5, rfl⟩ := hqf2.cons
      by_cases h58 : t5.text = [58]
      · have hM := mark_yes pb t5 q5 c ⟨#[58]⟩ (text_eq h58) W4 HP4.out
        have hqf5 : RP.Fine q5 := hqf2.next (.inr (by rw [h58]; simp))
        have HR3 : Hid (RP.markP c [58] (t5 :: q5) = .ok q5) := by show _ = _; rw [RP.markP, if_pos h58]
        clear h58
        refine hM.mono ?_
        rintro e w5 ⟨rfl, hp5, hg5⟩
        have hs5 := hg5.size
        have hN0' := (hg5.block w.heap.size (by omega) (fun e => by cases e; omega)).trans hN0
        have hN1' := (hg5.block (w.heap.size + 1) (by omega) (fun e => by cases e; omega)).trans hN1
        have HP5 : Hid (PS pb q5 c w5) := hp5
        have HG5 : Hid (w.grownBy w5 (some pb)) := HG4.out.trans hg5
        have HV5 : Hid (PAt (New W2) w5 [.pointer (some ⟨bb, 0, none⟩)] x) := HV4.out.keep (Keeps.new (by omega) hg5)
        clear hp5 hM hN0 hN1 hg5
        go_wp2_with fail
        have hC := pattern_any 9 0 rfl pb c q5 w5 hqf5 h5 (HK.out.grown HG5.out h5) HP5.out
        dsimp only at hC
        cases hb6 : RP.patP setOf c 9 q5 with
        | error b =>
          rw [hb6] at hC
          have HR : Hid (RP.ruleP setOf c (t :: r) = .error b) := by show _ = _; rw [RP.ruleP, HR1.out]; dsimp only; rw [HR2.out]; dsimp only; rw [HR3.out]; dsimp only; rw [hb6]
          clear hb6
          refine hC.mono ?_
          rintro e w6 ⟨hg6, b', rfl, k1, k2, k3⟩
          go_wp2_with fail
          exact ⟨rfl, Step.map HR.out HG5.out hg6 ⟨b', rfl, k1, k2, k3⟩⟩
        | ok y =>
          obtain ⟨y, q6⟩ := y
          rw [hb6] at hC
          have hqf6 := (RP.patP_fine 9 _ _ _ hqf5 hb6).1
          have HR4 : Hid (RP.patP setOf c 9 q5 = .ok (y, q6)) := hb6
          clear hb6
          refine hC.mono ?_
          rintro e w6 ⟨hg6, hp6, v6, rfl, ⟨ab, rfl⟩, hv6⟩
          have hs6 := hg6.size
          have hM0 := (hg6.block w.heap.size (by omega) (fun e => by cases e; omega)).trans hN0'
          have hM1 := (hg6.block (w.heap.size + 1) (by omega) (fun e => by cases e; omega)).trans hN1'
          have g3 := loc_cell (k := 3) hM1 rfl
          have z3 := loc_free (k := 3) hM1
          have HP6 : Hid (PS pb q6 c w6) := hp6
          have HG6 : Hid (w.grownBy w6 (some pb)) := HG5.out.trans hg6
          have HV6 : Hid (PAt (New W2) w6 [.pointer (some ⟨bb, 0, none⟩)] x) := HV5.out.keep (Keeps.new (by omega) hg6)
          have HU6 : Hid (PAt (New W2) w6 [.pointer (some ⟨ab, 0, none⟩)] y) := hv6.mono (New.mono (by omega))
          clear hp6 hv6 hC hN0' hN1' hg6
          go_wp2_with fail
          have hgS : w6.grownBy (w6.setCell ⟨w.heap.size + 1, 3, none⟩ (.pointer (some ⟨ab, 0, none⟩))) (some (w.heap.size + 1)) := grown_set _
          have hN1 : (w6.setCell ⟨w.heap.size + 1, 3, none⟩ (.pointer (some ⟨ab, 0, none⟩))).heap[w.heap.size + 1]? = some (.cells #[.int .i64 t.at_, .bool k, .pointer (some ⟨bb, 0, none⟩), .pointer (some ⟨ab, 0, none⟩)] 48) := heap_setCell_same w6 _ 3 _ 48 _ hM1
          have hN0 : (w6.setCell ⟨w.heap.size + 1, 3, none⟩ (.pointer (some ⟨ab, 0, none⟩))).heap[w.heap.size]? = some (.cells #[.int .i64 0, .bool false, .pointer none, .pointer none] 48) := (hgS.block _ (by omega) (fun e => by simp at e)).trans hM0
          have hs7 : W2.heap.size ≤ (w6.setCell ⟨w.heap.size + 1, 3, none⟩ (.pointer (some ⟨ab, 0, none⟩))).heap.size := by have := hgS.size; omega
          have HP7 : Hid (PS pb q6 c (w6.setCell ⟨w.heap.size + 1, 3, none⟩ (.pointer (some ⟨ab, 0, none⟩)))) := HP6.out.other hgS fun j hj => by cases hj; omega
          have HG7 : Hid (w.grownBy (w6.setCell ⟨w.heap.size + 1, 3, none⟩ (.pointer (some ⟨ab, 0, none⟩))) (some pb)) := grown_loc HG6.out hgS (by omega)
          have hkS : Keeps (New W2) w6 (w6.setCell ⟨w.heap.size + 1, 3, none⟩ (.pointer (some ⟨ab, 0, none⟩))) := Keeps.grown hgS fun b hb e => by cases e; unfold New at hb; omega
          have HV7 := HV6.out.keep hkS
          have HU7 := HU6.out.keep hkS
          generalize hW7 : w6.setCell ⟨w.heap.size + 1, 3, none⟩ (.pointer (some ⟨ab, 0, none⟩)) = W7 at hgS hN1 hN0 hs7 HP7 HG7 HV7 HU7 hkS ⊢
          have HV8 : Hid (PAt (New W2) W7 [.pointer (some ⟨bb, 0, none⟩)] x) := HV7
          have HU8 : Hid (PAt (New W2) W7 [.pointer (some ⟨ab, 0, none⟩)] y) := HU7
          clear hW7 hgS hM0 hM1 g3 z3 HP6 HG6 HV6 HU6 HV7 HU7 hkS
          obtain ⟨t8, q8, rfl⟩ := hqf6.cons
          by_cases h59 : t8.text = [59]
          · have hM := mark_yes pb t8 q8 c ⟨#[59]⟩ (text_eq h59) W7 HP7.out
            have HR : Hid (RP.ruleP setOf c (t :: r) = .ok (⟨t.at_, k, x, y⟩, q8)) := by
              show _ = _
              rw [RP.ruleP, HR1.out]; dsimp only; rw [HR2.out]; dsimp only; rw [HR3.out]; dsimp only; rw [HR4.out]; dsimp only; rw [RP.markP, if_pos h59]; rfl
            clear h59
            refine hM.mono ?_
            rintro e w8 ⟨rfl, hp8, hg8⟩
            have hs8 := hg8.size
            have hN0' := (hg8.block w.heap.size (by omega) (fun e => by cases e; omega)).trans hN0
            have hN1' := (hg8.block (w.heap.size + 1) (by omega) (fun e => by cases e; omega)).trans hN1
            have HP8 : Hid (PS pb q8 c w8) := hp8
            have HG8 : Hid (w.grownBy w8 (some pb)) := HG7.out.trans hg8
            have HV9 : Hid (PAt (New W2) w8 [.pointer (some ⟨bb, 0, none⟩)] x) := HV8.out.keep (Keeps.new (by omega) hg8)
            have HU9 : Hid (PAt (New W2) w8 [.pointer (some ⟨ab, 0, none⟩)] y) := HU8.out.keep (Keeps.new (by omega) hg8)
            have a0 := loc_cell (k := 0) hN1' rfl
            have a1 := loc_cell (k := 1) hN1' rfl
            have a2 := loc_cell (k := 2) hN1' rfl
            have a3 := loc_cell (k := 3) hN1' rfl
            have b0 := loc_cell (k := 0) hN0' rfl
            have b1 := loc_cell (k := 1) hN0' rfl
            have b2 := loc_cell (k := 2) hN0' rfl
            have b3 := loc_cell (k := 3) hN0' rfl
            have z0 := loc_free (k := 0) hN0'
            have z1 := loc_free (k := 1) hN0'
            have z2 := loc_free (k := 2) hN0'
            have z3 := loc_free (k := 3) hN0'
            clear hp8 hM hN0 hN1 hg8
            go_wp2_with fail
            have hL := row4_set hN0' (.int .i64 t.at_) (.bool k) (.pointer (some ⟨bb, 0, none⟩)) (.pointer (some ⟨ab, 0, none⟩))
            have hgF := grown_set4 w8 w.heap.size (.int .i64 t.at_) (.bool k) (.pointer (some ⟨bb, 0, none⟩)) (.pointer (some ⟨ab, 0, none⟩))
            have hkF := Keeps.grown (ok := New W2) hgF fun b hb e => by cases e; unfold New at hb; omega
            refine bodyPost_ret (results_cell_row rfl _ _ w.heap.size 48 #[_, _, _, _] _ _ rfl hL Tryz.underlying48 rfl size48) rfl ?_
            exact Step.ok HR.out (grown_loc HG8.out hgF (Nat.le_refl _)) (HP8.out.other hgF fun j hj => by cases hj; exact hl) ⟨_, _, rfl, ⟨_, rfl⟩, PAt.mono (New.mono (by omega)) (HV9.out.keep hkF), ⟨_, rfl⟩, PAt.mono (New.mono (by omega)) (HU9.out.keep hkF)⟩
          · have hM := mark_no pb t8 q8 c ⟨#[59]⟩ (text_ne h59) W7 HP7.out
            have HR : Hid (RP.ruleP setOf c (t :: r) = .error ⟨refuseE 3 t8 c, t8.at_⟩) := by
              show _ = _
              rw [RP.ruleP, HR1.out]; dsimp only; rw [HR2.out]; dsimp only; rw [HR3.out]; dsimp only; rw [HR4.out]; dsimp only; rw [RP.markP, if_neg h59, refuse_eq]
            clear h59
            refine hM.mono ?_
            rintro e w8 ⟨⟨b', rfl, k1, k2, k3⟩, hb8⟩
            go_wp2_with fail
            exact ⟨rfl, Step.map HR.out HG7.out (grown_below hb8 _) ⟨b', rfl, k1, k2, k3⟩⟩
      · have hM := mark_no pb t5 q5 c ⟨#[58]⟩ (text_ne h58) W4 HP4.out
        have HR : Hid (RP.ruleP setOf c (t :: r) = .error ⟨refuseE 3 t5 c, t5.at_⟩) := by
          show _ = _
          rw [RP.ruleP, HR1.out]; dsimp only; rw [HR2.out]; dsimp only; rw [RP.markP, if_neg h58, refuse_eq]
        clear h58
        refine hM.mono ?_
        rintro e w5 ⟨⟨b', rfl, k1, k2, k3⟩, hb5⟩
        go_wp2_with fail
        exact ⟨rfl, Step.map HR.out HG4.out (grown_below hb5 _) ⟨b', rfl, k1, k2, k3⟩⟩

end Go.Proofs.YtjbmdnkpfkelmaaGreatDoor.Q
