/- The walk of SetLaws. -/
import Derived.Test.YtdhnbmocdgmndaaDoorSMerged
import Derived.Test.YtdhnbmocdgmndaaDoorSAlg
import Derived.Deep.RegionHeld3
namespace Go.Proofs.YtdhnbmocdgmndaaDoor
open Go.RowKit

theorem less_length (X Y : List RS.Rg) : (RS.lessL X Y).length ≤ X.length + (Y.length + 1) := by
  have h1 := andL_length _ X (RS.notL Y) (Nat.le_refl _)
  have h2 := notFrom_length Y 0
  exact Nat.le_trans h1 (Nat.add_le_add_left h2 _)

theorem rg_set {W : World} {v u : Value} {s : List RS.Rg} {g : Nat} (h : RgAt W.heap.size W v s) (hq : ∀ k, 1 ≤ k → W.cell? ⟨g, k, none⟩ = none) : RgAt (W.setCell ⟨g, 0, none⟩ u).heap.size (W.setCell ⟨g, 0, none⟩ u) v s := by
  obtain ⟨ao, cap, rfl, hc, h⟩ := h
  refine ⟨ao, cap, rfl, hc, fun hz => ?_⟩
  obtain ⟨b, off, e, hbl, hcell⟩ := h hz
  have hne : b ≠ g := by
    rintro rfl
    have h0 := (hcell 0 (List.length_pos_iff.2 hz)).2
    rw [hq _ (by omega)] at h0
    cases h0
  refine ⟨b, off, e, by simpa using hbl, fun k hk => ?_⟩
  exact ⟨(World.cell?_setCell_other _ _ _ _ (by simp)).trans (hcell k hk).1, (World.cell?_setCell_other _ _ _ _ (by simp)).trans (hcell k hk).2⟩

/-- What is held of a world besides the point: where two sets lie. -/
def Rest (g : Nat) (vX : Value) (X : List RS.Rg) (vY : Value) (Y : List RS.Rg) (w' : World) : Prop :=
  g < w'.heap.size ∧ RgAt w'.heap.size w' vX X ∧ RgAt w'.heap.size w' vY Y

theorem rest_keep {g : Nat} {q : Int} {vX vY : Value} {X Y : List RS.Rg} {W w' : World} (hb : Below W.heap.size W w') (h : W.cell? ⟨g, 0, none⟩ = some (.int .i64 q) ∧ Rest g vX X vY Y W) :
    w'.cell? ⟨g, 0, none⟩ = some (.int .i64 q) ∧ Rest g vX X vY Y w' :=
  ⟨(hb.cell (by exact h.2.1)).trans h.1, Nat.lt_of_lt_of_le h.2.1 hb.size, h.2.2.1.below hb _ hb.size, h.2.2.2.below hb _ hb.size⟩

theorem rest_x {g : Nat} {q : Int} {vX vY : Value} {X Y : List RS.Rg} {w' : World} (h : w'.cell? ⟨g, 0, none⟩ = some (.int .i64 q) ∧ Rest g vX X vY Y w') : RgAt w'.heap.size w' vX X := h.2.2.1
theorem rest_y {g : Nat} {q : Int} {vX vY : Value} {X Y : List RS.Rg} {w' : World} (h : w'.cell? ⟨g, 0, none⟩ = some (.int .i64 q) ∧ Rest g vX X vY Y w') : RgAt w'.heap.size w' vY Y := h.2.2.2

set_option linter.unusedSimpArgs false in
set_option maxHeartbeats 8000000 in
set_option maxRecDepth 100000 in
theorem laws_main (aoa aob aoc : Option Addr) (ca cb cc : Nat) (A B C : List RS.Rg) (p : Int) (hA : A.length ≤ 20) (hBl : B.length ≤ 20) (hCl : C.length ≤ 20) (w : World) (hTZ : TZ w) (hw8 : 8 < w.heap.size)
    (ha : RgAt w.heap.size w (.slice aoa A.length ca) A) (hb : RgAt w.heap.size w (.slice aob B.length cb) B) (hc : RgAt w.heap.size w (.slice aoc C.length cc) C) :
    Calls Tryd.prog 6 #[.slice aoa A.length ca, .slice aob B.length cb, .slice aoc C.length cc, .int .i64 p] w fun e w' => e = .returned (.bool true) ∧ Below w.heap.size w w' := by
  obtain ⟨W00, hW00⟩ : ∃ W00, W00 = w.alloc (.cells #[.int .i64 p] 3) := ⟨_, rfl⟩
  have HW00 : Hid (W00 = w.alloc (.cells #[.int .i64 p] 3)) := hW00
  have hB : Below w.heap.size w W00 := by rw [hW00]; exact (Below.refl _ w).alloc (Nat.le_refl _) _
  have hpl : w.heap.size < W00.heap.size := by rw [hW00]; simp
  have hcp : W00.cell? ⟨w.heap.size, 0, none⟩ = some (.int .i64 p) := by rw [hW00]; simp
  have Ha : Hid (RgAt W00.heap.size W00 (.slice aoa A.length ca) A) := ha.below hB _ hB.size
  have Hb : Hid (RgAt W00.heap.size W00 (.slice aob B.length cb) B) := hb.below hB _ hB.size
  have Hc : Hid (RgAt W00.heap.size W00 (.slice aoc C.length cc) C) := hc.below hB _ hB.size
  have HF : Hid (W00.frozen? ⟨w.heap.size, 0, none⟩ = false ∧ ∀ k, 1 ≤ k → W00.cell? ⟨w.heap.size, k, none⟩ = none) := by
    rw [hW00]
    exact ⟨by simp, fun k hk => by simp; omega⟩
  have hT0 : TZ W00 := hTZ.below hB hw8
  have h80 : 8 < W00.heap.size := Nat.lt_of_lt_of_le hw8 hB.size
  clear hW00 ha hb hc
  have hm := merged_any W00 hT0 h80
  go_enter Tryd.func6, Tryd.ntmps6
  go_wp2_with fail
  rw [← HW00.out]
  refine hm.mono ?_
  rintro e W0 ⟨rfl, hb⟩
  have Na : Hid (RgAt W0.heap.size W0 (.slice aoa A.length ca) A) := Ha.out.below hb _ hb.size
  have Nb : Hid (RgAt W0.heap.size W0 (.slice aob B.length cb) B) := Hb.out.below hb _ hb.size
  have Nc : Hid (RgAt W0.heap.size W0 (.slice aoc C.length cc) C) := Hc.out.below hb _ hb.size
  have hBn := hB.trans (hb.mono hB.size)
  have hcn := (hb.cell (p := ⟨w.heap.size, 0, none⟩) (by exact hpl)).trans hcp
  have hpn : w.heap.size < W0.heap.size := Nat.lt_of_lt_of_le hpl hb.size
  have HFn : Hid (W0.frozen? ⟨w.heap.size, 0, none⟩ = false ∧ ∀ k, 1 ≤ k → W0.cell? ⟨w.heap.size, k, none⟩ = none) := ⟨(hb.frozen (p := ⟨w.heap.size, 0, none⟩) (by exact hpl)).trans HF.out.1, fun k hk => (hb.cell (p := ⟨w.heap.size, k, none⟩) (by exact hpl)).trans (HF.out.2 k hk)⟩
  clear hB hcp hpl HF Ha Hb Hc hT0 h80 hm HW00
  have Ha : Hid (RgAt W0.heap.size W0 (.slice aoa A.length ca) A) := Na.out
  have Hb : Hid (RgAt W0.heap.size W0 (.slice aob B.length cb) B) := Nb.out
  have Hc : Hid (RgAt W0.heap.size W0 (.slice aoc C.length cc) C) := Nc.out
  have hB := hBn
  have hcp := hcn
  have hpl := hpn
  have HF : Hid (W0.frozen? ⟨w.heap.size, 0, none⟩ = false ∧ ∀ k, 1 ≤ k → W0.cell? ⟨w.heap.size, k, none⟩ = none) := HFn.out
  clear hBn hcn hpn HFn hb Na Nb Nc
  go_wp2_with fail
  refine (of_any _ A (by omega) _ Ha.out).mono ?_
  rintro e w1 ⟨vX, X, rfl, hofX, hlnX, hown, hb⟩
  have Na : Hid (RgAt w1.heap.size w1 (.slice aoa A.length ca) A) := Ha.out.below hb _ hb.size
  have Nb : Hid (RgAt w1.heap.size w1 (.slice aob B.length cb) B) := Hb.out.below hb _ hb.size
  have Nc : Hid (RgAt w1.heap.size w1 (.slice aoc C.length cc) C) := Hc.out.below hb _ hb.size
  have NX : Hid (RgAt w1.heap.size w1 vX X) := rg_of_own hown
  have OX : Hid (RS.IsOf A X) := hofX
  have RX : RS.right X = true := hofX.1
  clear hofX
  have HX := NX
  have hBn := hB.trans (hb.mono hB.size)
  have hcn := (hb.cell (p := ⟨w.heap.size, 0, none⟩) (by exact hpl)).trans hcp
  have hpn : w.heap.size < w1.heap.size := Nat.lt_of_lt_of_le hpl hb.size
  have HFn : Hid (w1.frozen? ⟨w.heap.size, 0, none⟩ = false ∧ ∀ k, 1 ≤ k → w1.cell? ⟨w.heap.size, k, none⟩ = none) := ⟨(hb.frozen (p := ⟨w.heap.size, 0, none⟩) (by exact hpl)).trans HF.out.1, fun k hk => (hb.cell (p := ⟨w.heap.size, k, none⟩) (by exact hpl)).trans (HF.out.2 k hk)⟩
  clear hB hcp hpl HF Ha Hb Hc HX
  have Ha : Hid (RgAt w1.heap.size w1 (.slice aoa A.length ca) A) := Na.out
  have Hb : Hid (RgAt w1.heap.size w1 (.slice aob B.length cb) B) := Nb.out
  have Hc : Hid (RgAt w1.heap.size w1 (.slice aoc C.length cc) C) := Nc.out
  have HX : Hid (RgAt w1.heap.size w1 vX X) := NX.out
  have hB := hBn
  have hcp := hcn
  have hpl := hpn
  have HF : Hid (w1.frozen? ⟨w.heap.size, 0, none⟩ = false ∧ ∀ k, 1 ≤ k → w1.cell? ⟨w.heap.size, k, none⟩ = none) := HFn.out
  clear hBn hcn hpn HFn hb Na Nb Nc NX hown
  go_wp2_with fail
  refine (of_any _ B (by omega) _ Hb.out).mono ?_
  rintro e w2 ⟨vY, Y, rfl, hofY, hlnY, hown, hb⟩
  have Na : Hid (RgAt w2.heap.size w2 (.slice aoa A.length ca) A) := Ha.out.below hb _ hb.size
  have Nb : Hid (RgAt w2.heap.size w2 (.slice aob B.length cb) B) := Hb.out.below hb _ hb.size
  have Nc : Hid (RgAt w2.heap.size w2 (.slice aoc C.length cc) C) := Hc.out.below hb _ hb.size
  have NX : Hid (RgAt w2.heap.size w2 vX X) := HX.out.below hb _ hb.size
  have NY : Hid (RgAt w2.heap.size w2 vY Y) := rg_of_own hown
  have OY : Hid (RS.IsOf B Y) := hofY
  have RY : RS.right Y = true := hofY.1
  clear hofY
  have HY := NY
  have hBn := hB.trans (hb.mono hB.size)
  have hcn := (hb.cell (p := ⟨w.heap.size, 0, none⟩) (by exact hpl)).trans hcp
  have hpn : w.heap.size < w2.heap.size := Nat.lt_of_lt_of_le hpl hb.size
  have HFn : Hid (w2.frozen? ⟨w.heap.size, 0, none⟩ = false ∧ ∀ k, 1 ≤ k → w2.cell? ⟨w.heap.size, k, none⟩ = none) := ⟨(hb.frozen (p := ⟨w.heap.size, 0, none⟩) (by exact hpl)).trans HF.out.1, fun k hk => (hb.cell (p := ⟨w.heap.size, k, none⟩) (by exact hpl)).trans (HF.out.2 k hk)⟩
  clear hB hcp hpl HF Ha Hb Hc HX HY
  have Ha : Hid (RgAt w2.heap.size w2 (.slice aoa A.length ca) A) := Na.out
  have Hb : Hid (RgAt w2.heap.size w2 (.slice aob B.length cb) B) := Nb.out
  have Hc : Hid (RgAt w2.heap.size w2 (.slice aoc C.length cc) C) := Nc.out
  have HX : Hid (RgAt w2.heap.size w2 vX X) := NX.out
  have HY : Hid (RgAt w2.heap.size w2 vY Y) := NY.out
  have hB := hBn
  have hcp := hcn
  have hpl := hpn
  have HF : Hid (w2.frozen? ⟨w.heap.size, 0, none⟩ = false ∧ ∀ k, 1 ≤ k → w2.cell? ⟨w.heap.size, k, none⟩ = none) := HFn.out
  clear hBn hcn hpn HFn hb Na Nb Nc NX NY hown
  clear Hb
  go_wp2_with fail
  refine (of_any _ C (by omega) _ Hc.out).mono ?_
  rintro e w3 ⟨vZ, Z, rfl, hofZ, hlnZ, hown, hb⟩
  have Na : Hid (RgAt w3.heap.size w3 (.slice aoa A.length ca) A) := Ha.out.below hb _ hb.size
  have Nc : Hid (RgAt w3.heap.size w3 (.slice aoc C.length cc) C) := Hc.out.below hb _ hb.size
  have NX : Hid (RgAt w3.heap.size w3 vX X) := HX.out.below hb _ hb.size
  have NY : Hid (RgAt w3.heap.size w3 vY Y) := HY.out.below hb _ hb.size
  have NZ : Hid (RgAt w3.heap.size w3 vZ Z) := rg_of_own hown
  have OZ : Hid (RS.IsOf C Z) := hofZ
  have RZ : RS.right Z = true := hofZ.1
  clear hofZ
  have HZ := NZ
  have hBn := hB.trans (hb.mono hB.size)
  have hcn := (hb.cell (p := ⟨w.heap.size, 0, none⟩) (by exact hpl)).trans hcp
  have hpn : w.heap.size < w3.heap.size := Nat.lt_of_lt_of_le hpl hb.size
  have HFn : Hid (w3.frozen? ⟨w.heap.size, 0, none⟩ = false ∧ ∀ k, 1 ≤ k → w3.cell? ⟨w.heap.size, k, none⟩ = none) := ⟨(hb.frozen (p := ⟨w.heap.size, 0, none⟩) (by exact hpl)).trans HF.out.1, fun k hk => (hb.cell (p := ⟨w.heap.size, k, none⟩) (by exact hpl)).trans (HF.out.2 k hk)⟩
  clear hB hcp hpl HF Ha Hc HX HY HZ
  have Ha : Hid (RgAt w3.heap.size w3 (.slice aoa A.length ca) A) := Na.out
  have Hc : Hid (RgAt w3.heap.size w3 (.slice aoc C.length cc) C) := Nc.out
  have HX : Hid (RgAt w3.heap.size w3 vX X) := NX.out
  have HY : Hid (RgAt w3.heap.size w3 vY Y) := NY.out
  have HZ : Hid (RgAt w3.heap.size w3 vZ Z) := NZ.out
  have hB := hBn
  have hcp := hcn
  have hpl := hpn
  have HF : Hid (w3.frozen? ⟨w.heap.size, 0, none⟩ = false ∧ ∀ k, 1 ≤ k → w3.cell? ⟨w.heap.size, k, none⟩ = none) := HFn.out
  clear hBn hcn hpn HFn hb Na Nc NX NY NZ hown
  clear Hc
  go_wp2_with fail
  refine (or_any _ _ X Y (by omega) (by omega) _ HX.out HY.out).mono ?_
  rintro e w4 ⟨vr1, r1, rfl, hofr1, hlnr1, hown, hb⟩
  have Na : Hid (RgAt w4.heap.size w4 (.slice aoa A.length ca) A) := Ha.out.below hb _ hb.size
  have NX : Hid (RgAt w4.heap.size w4 vX X) := HX.out.below hb _ hb.size
  have NY : Hid (RgAt w4.heap.size w4 vY Y) := HY.out.below hb _ hb.size
  have NZ : Hid (RgAt w4.heap.size w4 vZ Z) := HZ.out.below hb _ hb.size
  have Nr1 : Hid (RgAt w4.heap.size w4 vr1 r1) := rg_of_own hown
  have Or1 : Hid (RS.IsOf (X ++ Y) r1) := hofr1
  have Rr1 : RS.right r1 = true := hofr1.1
  clear hofr1
  have Hr1 := Nr1
  have hBn := hB.trans (hb.mono hB.size)
  have hcn := (hb.cell (p := ⟨w.heap.size, 0, none⟩) (by exact hpl)).trans hcp
  have hpn : w.heap.size < w4.heap.size := Nat.lt_of_lt_of_le hpl hb.size
  have HFn : Hid (w4.frozen? ⟨w.heap.size, 0, none⟩ = false ∧ ∀ k, 1 ≤ k → w4.cell? ⟨w.heap.size, k, none⟩ = none) := ⟨(hb.frozen (p := ⟨w.heap.size, 0, none⟩) (by exact hpl)).trans HF.out.1, fun k hk => (hb.cell (p := ⟨w.heap.size, k, none⟩) (by exact hpl)).trans (HF.out.2 k hk)⟩
  clear hB hcp hpl HF Ha HX HY HZ Hr1
  have Ha : Hid (RgAt w4.heap.size w4 (.slice aoa A.length ca) A) := Na.out
  have HX : Hid (RgAt w4.heap.size w4 vX X) := NX.out
  have HY : Hid (RgAt w4.heap.size w4 vY Y) := NY.out
  have HZ : Hid (RgAt w4.heap.size w4 vZ Z) := NZ.out
  have Hr1 : Hid (RgAt w4.heap.size w4 vr1 r1) := Nr1.out
  have hB := hBn
  have hcp := hcn
  have hpl := hpn
  have HF : Hid (w4.frozen? ⟨w.heap.size, 0, none⟩ = false ∧ ∀ k, 1 ≤ k → w4.cell? ⟨w.heap.size, k, none⟩ = none) := HFn.out
  clear hBn hcn hpn HFn hb Na NX NY NZ Nr1 hown
  go_wp2_with fail
  refine (not_any _ r1 (by omega) _ Hr1.out Rr1).mono ?_
  rintro e w5 ⟨vn1, rfl, hown, hb⟩
  have Na : Hid (RgAt w5.heap.size w5 (.slice aoa A.length ca) A) := Ha.out.below hb _ hb.size
  have NX : Hid (RgAt w5.heap.size w5 vX X) := HX.out.below hb _ hb.size
  have NY : Hid (RgAt w5.heap.size w5 vY Y) := HY.out.below hb _ hb.size
  have NZ : Hid (RgAt w5.heap.size w5 vZ Z) := HZ.out.below hb _ hb.size
  have Nr1 : Hid (RgAt w5.heap.size w5 vr1 r1) := Hr1.out.below hb _ hb.size
  have Nn1 : Hid (RgAt w5.heap.size w5 vn1 (RS.notL r1)) := rg_of_own hown
  have Rn1 : RS.right (RS.notL r1) = true := RS.notL_right Rr1
  have hlnn1 : (RS.notL r1).length ≤ r1.length + 1 := notFrom_length r1 0
  have Hn1 := Nn1
  have hBn := hB.trans (hb.mono hB.size)
  have hcn := (hb.cell (p := ⟨w.heap.size, 0, none⟩) (by exact hpl)).trans hcp
  have hpn : w.heap.size < w5.heap.size := Nat.lt_of_lt_of_le hpl hb.size
  have HFn : Hid (w5.frozen? ⟨w.heap.size, 0, none⟩ = false ∧ ∀ k, 1 ≤ k → w5.cell? ⟨w.heap.size, k, none⟩ = none) := ⟨(hb.frozen (p := ⟨w.heap.size, 0, none⟩) (by exact hpl)).trans HF.out.1, fun k hk => (hb.cell (p := ⟨w.heap.size, k, none⟩) (by exact hpl)).trans (HF.out.2 k hk)⟩
  clear hB hcp hpl HF Ha HX HY HZ Hr1 Hn1
  have Ha : Hid (RgAt w5.heap.size w5 (.slice aoa A.length ca) A) := Na.out
  have HX : Hid (RgAt w5.heap.size w5 vX X) := NX.out
  have HY : Hid (RgAt w5.heap.size w5 vY Y) := NY.out
  have HZ : Hid (RgAt w5.heap.size w5 vZ Z) := NZ.out
  have Hr1 : Hid (RgAt w5.heap.size w5 vr1 r1) := Nr1.out
  have Hn1 : Hid (RgAt w5.heap.size w5 vn1 (RS.notL r1)) := Nn1.out
  have hB := hBn
  have hcp := hcn
  have hpl := hpn
  have HF : Hid (w5.frozen? ⟨w.heap.size, 0, none⟩ = false ∧ ∀ k, 1 ≤ k → w5.cell? ⟨w.heap.size, k, none⟩ = none) := HFn.out
  clear hBn hcn hpn HFn hb Na NX NY NZ Nr1 Nn1 hown
  clear Hr1
  go_wp2_with fail
  refine (not_any _ X (by omega) _ HX.out RX).mono ?_
  rintro e w6 ⟨vnx, rfl, hown, hb⟩
  have Na : Hid (RgAt w6.heap.size w6 (.slice aoa A.length ca) A) := Ha.out.below hb _ hb.size
  have NX : Hid (RgAt w6.heap.size w6 vX X) := HX.out.below hb _ hb.size
  have NY : Hid (RgAt w6.heap.size w6 vY Y) := HY.out.below hb _ hb.size
  have NZ : Hid (RgAt w6.heap.size w6 vZ Z) := HZ.out.below hb _ hb.size
  have Nn1 : Hid (RgAt w6.heap.size w6 vn1 (RS.notL r1)) := Hn1.out.below hb _ hb.size
  have Nnx : Hid (RgAt w6.heap.size w6 vnx (RS.notL X)) := rg_of_own hown
  have Rnx : RS.right (RS.notL X) = true := RS.notL_right RX
  have hlnnx : (RS.notL X).length ≤ X.length + 1 := notFrom_length X 0
  have Hnx := Nnx
  have hBn := hB.trans (hb.mono hB.size)
  have hcn := (hb.cell (p := ⟨w.heap.size, 0, none⟩) (by exact hpl)).trans hcp
  have hpn : w.heap.size < w6.heap.size := Nat.lt_of_lt_of_le hpl hb.size
  have HFn : Hid (w6.frozen? ⟨w.heap.size, 0, none⟩ = false ∧ ∀ k, 1 ≤ k → w6.cell? ⟨w.heap.size, k, none⟩ = none) := ⟨(hb.frozen (p := ⟨w.heap.size, 0, none⟩) (by exact hpl)).trans HF.out.1, fun k hk => (hb.cell (p := ⟨w.heap.size, k, none⟩) (by exact hpl)).trans (HF.out.2 k hk)⟩
  clear hB hcp hpl HF Ha HX HY HZ Hn1 Hnx
  have Ha : Hid (RgAt w6.heap.size w6 (.slice aoa A.length ca) A) := Na.out
  have HX : Hid (RgAt w6.heap.size w6 vX X) := NX.out
  have HY : Hid (RgAt w6.heap.size w6 vY Y) := NY.out
  have HZ : Hid (RgAt w6.heap.size w6 vZ Z) := NZ.out
  have Hn1 : Hid (RgAt w6.heap.size w6 vn1 (RS.notL r1)) := Nn1.out
  have Hnx : Hid (RgAt w6.heap.size w6 vnx (RS.notL X)) := Nnx.out
  have hB := hBn
  have hcp := hcn
  have hpl := hpn
  have HF : Hid (w6.frozen? ⟨w.heap.size, 0, none⟩ = false ∧ ∀ k, 1 ≤ k → w6.cell? ⟨w.heap.size, k, none⟩ = none) := HFn.out
  clear hBn hcn hpn HFn hb Na NX NY NZ Nn1 Nnx hown
  go_wp2_with fail
  refine (not_any _ Y (by omega) _ HY.out RY).mono ?_
  rintro e w7 ⟨vny, rfl, hown, hb⟩
  have Na : Hid (RgAt w7.heap.size w7 (.slice aoa A.length ca) A) := Ha.out.below hb _ hb.size
  have NX : Hid (RgAt w7.heap.size w7 vX X) := HX.out.below hb _ hb.size
  have NY : Hid (RgAt w7.heap.size w7 vY Y) := HY.out.below hb _ hb.size
  have NZ : Hid (RgAt w7.heap.size w7 vZ Z) := HZ.out.below hb _ hb.size
  have Nn1 : Hid (RgAt w7.heap.size w7 vn1 (RS.notL r1)) := Hn1.out.below hb _ hb.size
  have Nnx : Hid (RgAt w7.heap.size w7 vnx (RS.notL X)) := Hnx.out.below hb _ hb.size
  have Nny : Hid (RgAt w7.heap.size w7 vny (RS.notL Y)) := rg_of_own hown
  have Rny : RS.right (RS.notL Y) = true := RS.notL_right RY
  have hlnny : (RS.notL Y).length ≤ Y.length + 1 := notFrom_length Y 0
  have Hny := Nny
  have hBn := hB.trans (hb.mono hB.size)
  have hcn := (hb.cell (p := ⟨w.heap.size, 0, none⟩) (by exact hpl)).trans hcp
  have hpn : w.heap.size < w7.heap.size := Nat.lt_of_lt_of_le hpl hb.size
  have HFn : Hid (w7.frozen? ⟨w.heap.size, 0, none⟩ = false ∧ ∀ k, 1 ≤ k → w7.cell? ⟨w.heap.size, k, none⟩ = none) := ⟨(hb.frozen (p := ⟨w.heap.size, 0, none⟩) (by exact hpl)).trans HF.out.1, fun k hk => (hb.cell (p := ⟨w.heap.size, k, none⟩) (by exact hpl)).trans (HF.out.2 k hk)⟩
  clear hB hcp hpl HF Ha HX HY HZ Hn1 Hnx Hny
  have Ha : Hid (RgAt w7.heap.size w7 (.slice aoa A.length ca) A) := Na.out
  have HX : Hid (RgAt w7.heap.size w7 vX X) := NX.out
  have HY : Hid (RgAt w7.heap.size w7 vY Y) := NY.out
  have HZ : Hid (RgAt w7.heap.size w7 vZ Z) := NZ.out
  have Hn1 : Hid (RgAt w7.heap.size w7 vn1 (RS.notL r1)) := Nn1.out
  have Hnx : Hid (RgAt w7.heap.size w7 vnx (RS.notL X)) := Nnx.out
  have Hny : Hid (RgAt w7.heap.size w7 vny (RS.notL Y)) := Nny.out
  have hB := hBn
  have hcp := hcn
  have hpl := hpn
  have HF : Hid (w7.frozen? ⟨w.heap.size, 0, none⟩ = false ∧ ∀ k, 1 ≤ k → w7.cell? ⟨w.heap.size, k, none⟩ = none) := HFn.out
  clear hBn hcn hpn HFn hb Na NX NY NZ Nn1 Nnx Nny hown
  go_wp2_with fail
  refine (and_any _ _ (RS.notL X) (RS.notL Y) (by omega) (by omega) _ Hnx.out Hny.out).mono ?_
  rintro e w8 ⟨va1, rfl, hown, hb⟩
  have Na : Hid (RgAt w8.heap.size w8 (.slice aoa A.length ca) A) := Ha.out.below hb _ hb.size
  have NX : Hid (RgAt w8.heap.size w8 vX X) := HX.out.below hb _ hb.size
  have NY : Hid (RgAt w8.heap.size w8 vY Y) := HY.out.below hb _ hb.size
  have NZ : Hid (RgAt w8.heap.size w8 vZ Z) := HZ.out.below hb _ hb.size
  have Nn1 : Hid (RgAt w8.heap.size w8 vn1 (RS.notL r1)) := Hn1.out.below hb _ hb.size
  have Nnx : Hid (RgAt w8.heap.size w8 vnx (RS.notL X)) := Hnx.out.below hb _ hb.size
  have Nny : Hid (RgAt w8.heap.size w8 vny (RS.notL Y)) := Hny.out.below hb _ hb.size
  have Na1 : Hid (RgAt w8.heap.size w8 va1 (RS.andL (RS.notL X) (RS.notL Y))) := rg_of_own hown
  have Ra1 : RS.right (RS.andL (RS.notL X) (RS.notL Y)) = true := RS.andL_right Rnx Rny
  have hlna1 : (RS.andL (RS.notL X) (RS.notL Y)).length ≤ (RS.notL X).length + (RS.notL Y).length := andL_length _ _ _ (Nat.le_refl _)
  have Ha1 := Na1
  have hBn := hB.trans (hb.mono hB.size)
  have hcn := (hb.cell (p := ⟨w.heap.size, 0, none⟩) (by exact hpl)).trans hcp
  have hpn : w.heap.size < w8.heap.size := Nat.lt_of_lt_of_le hpl hb.size
  have HFn : Hid (w8.frozen? ⟨w.heap.size, 0, none⟩ = false ∧ ∀ k, 1 ≤ k → w8.cell? ⟨w.heap.size, k, none⟩ = none) := ⟨(hb.frozen (p := ⟨w.heap.size, 0, none⟩) (by exact hpl)).trans HF.out.1, fun k hk => (hb.cell (p := ⟨w.heap.size, k, none⟩) (by exact hpl)).trans (HF.out.2 k hk)⟩
  clear hB hcp hpl HF Ha HX HY HZ Hn1 Hnx Hny Ha1
  have Ha : Hid (RgAt w8.heap.size w8 (.slice aoa A.length ca) A) := Na.out
  have HX : Hid (RgAt w8.heap.size w8 vX X) := NX.out
  have HY : Hid (RgAt w8.heap.size w8 vY Y) := NY.out
  have HZ : Hid (RgAt w8.heap.size w8 vZ Z) := NZ.out
  have Hn1 : Hid (RgAt w8.heap.size w8 vn1 (RS.notL r1)) := Nn1.out
  have Hnx : Hid (RgAt w8.heap.size w8 vnx (RS.notL X)) := Nnx.out
  have Hny : Hid (RgAt w8.heap.size w8 vny (RS.notL Y)) := Nny.out
  have Ha1 : Hid (RgAt w8.heap.size w8 va1 (RS.andL (RS.notL X) (RS.notL Y))) := Na1.out
  have hB := hBn
  have hcp := hcn
  have hpl := hpn
  have HF : Hid (w8.frozen? ⟨w.heap.size, 0, none⟩ = false ∧ ∀ k, 1 ≤ k → w8.cell? ⟨w.heap.size, k, none⟩ = none) := HFn.out
  clear hBn hcn hpn HFn hb Na NX NY NZ Nn1 Nnx Nny Na1 hown
  clear Hnx
  clear Hny
  go_wp2_with fail
  refine (same_any _ _ (RS.notL r1) (by omega) Rn1 _ Hn1.out (by have := Ha1.out; rwa [RS.alg_not_or RX RY Or1.out] at this)).mono ?_
  rintro e w9 ⟨rfl, hb⟩
  have Na : Hid (RgAt w9.heap.size w9 (.slice aoa A.length ca) A) := Ha.out.below hb _ hb.size
  have NX : Hid (RgAt w9.heap.size w9 vX X) := HX.out.below hb _ hb.size
  have NY : Hid (RgAt w9.heap.size w9 vY Y) := HY.out.below hb _ hb.size
  have NZ : Hid (RgAt w9.heap.size w9 vZ Z) := HZ.out.below hb _ hb.size
  have Nn1 : Hid (RgAt w9.heap.size w9 vn1 (RS.notL r1)) := Hn1.out.below hb _ hb.size
  have Na1 : Hid (RgAt w9.heap.size w9 va1 (RS.andL (RS.notL X) (RS.notL Y))) := Ha1.out.below hb _ hb.size
  have hBn := hB.trans (hb.mono hB.size)
  have hcn := (hb.cell (p := ⟨w.heap.size, 0, none⟩) (by exact hpl)).trans hcp
  have hpn : w.heap.size < w9.heap.size := Nat.lt_of_lt_of_le hpl hb.size
  have HFn : Hid (w9.frozen? ⟨w.heap.size, 0, none⟩ = false ∧ ∀ k, 1 ≤ k → w9.cell? ⟨w.heap.size, k, none⟩ = none) := ⟨(hb.frozen (p := ⟨w.heap.size, 0, none⟩) (by exact hpl)).trans HF.out.1, fun k hk => (hb.cell (p := ⟨w.heap.size, k, none⟩) (by exact hpl)).trans (HF.out.2 k hk)⟩
  clear hB hcp hpl HF Ha HX HY HZ Hn1 Ha1
  have Ha : Hid (RgAt w9.heap.size w9 (.slice aoa A.length ca) A) := Na.out
  have HX : Hid (RgAt w9.heap.size w9 vX X) := NX.out
  have HY : Hid (RgAt w9.heap.size w9 vY Y) := NY.out
  have HZ : Hid (RgAt w9.heap.size w9 vZ Z) := NZ.out
  have Hn1 : Hid (RgAt w9.heap.size w9 vn1 (RS.notL r1)) := Nn1.out
  have Ha1 : Hid (RgAt w9.heap.size w9 va1 (RS.andL (RS.notL X) (RS.notL Y))) := Na1.out
  have hB := hBn
  have hcp := hcn
  have hpl := hpn
  have HF : Hid (w9.frozen? ⟨w.heap.size, 0, none⟩ = false ∧ ∀ k, 1 ≤ k → w9.cell? ⟨w.heap.size, k, none⟩ = none) := HFn.out
  clear hBn hcn hpn HFn hb Na NX NY NZ Nn1 Na1
  clear Hn1
  clear Ha1
  go_wp2_with fail
  refine (less_any _ _ X Y (by omega) (by omega) RY _ HX.out HY.out).mono ?_
  rintro e w10 ⟨vl2, rfl, hown, hb⟩
  have Na : Hid (RgAt w10.heap.size w10 (.slice aoa A.length ca) A) := Ha.out.below hb _ hb.size
  have NX : Hid (RgAt w10.heap.size w10 vX X) := HX.out.below hb _ hb.size
  have NY : Hid (RgAt w10.heap.size w10 vY Y) := HY.out.below hb _ hb.size
  have NZ : Hid (RgAt w10.heap.size w10 vZ Z) := HZ.out.below hb _ hb.size
  have Nl2 : Hid (RgAt w10.heap.size w10 vl2 (RS.lessL X Y)) := rg_of_own hown
  have Rl2 : RS.right (RS.lessL X Y) = true := RS.lessL_right RX RY
  have hlnl2 : (RS.lessL X Y).length ≤ X.length + (Y.length + 1) := less_length X Y
  have Hl2 := Nl2
  have hBn := hB.trans (hb.mono hB.size)
  have hcn := (hb.cell (p := ⟨w.heap.size, 0, none⟩) (by exact hpl)).trans hcp
  have hpn : w.heap.size < w10.heap.size := Nat.lt_of_lt_of_le hpl hb.size
  have HFn : Hid (w10.frozen? ⟨w.heap.size, 0, none⟩ = false ∧ ∀ k, 1 ≤ k → w10.cell? ⟨w.heap.size, k, none⟩ = none) := ⟨(hb.frozen (p := ⟨w.heap.size, 0, none⟩) (by exact hpl)).trans HF.out.1, fun k hk => (hb.cell (p := ⟨w.heap.size, k, none⟩) (by exact hpl)).trans (HF.out.2 k hk)⟩
  clear hB hcp hpl HF Ha HX HY HZ Hl2
  have Ha : Hid (RgAt w10.heap.size w10 (.slice aoa A.length ca) A) := Na.out
  have HX : Hid (RgAt w10.heap.size w10 vX X) := NX.out
  have HY : Hid (RgAt w10.heap.size w10 vY Y) := NY.out
  have HZ : Hid (RgAt w10.heap.size w10 vZ Z) := NZ.out
  have Hl2 : Hid (RgAt w10.heap.size w10 vl2 (RS.lessL X Y)) := Nl2.out
  have hB := hBn
  have hcp := hcn
  have hpl := hpn
  have HF : Hid (w10.frozen? ⟨w.heap.size, 0, none⟩ = false ∧ ∀ k, 1 ≤ k → w10.cell? ⟨w.heap.size, k, none⟩ = none) := HFn.out
  clear hBn hcn hpn HFn hb Na NX NY NZ Nl2 hown
  go_wp2_with fail
  refine (not_any _ Y (by omega) _ HY.out RY).mono ?_
  rintro e w11 ⟨vn2, rfl, hown, hb⟩
  have Na : Hid (RgAt w11.heap.size w11 (.slice aoa A.length ca) A) := Ha.out.below hb _ hb.size
  have NX : Hid (RgAt w11.heap.size w11 vX X) := HX.out.below hb _ hb.size
  have NY : Hid (RgAt w11.heap.size w11 vY Y) := HY.out.below hb _ hb.size
  have NZ : Hid (RgAt w11.heap.size w11 vZ Z) := HZ.out.below hb _ hb.size
  have Nl2 : Hid (RgAt w11.heap.size w11 vl2 (RS.lessL X Y)) := Hl2.out.below hb _ hb.size
  have Nn2 : Hid (RgAt w11.heap.size w11 vn2 (RS.notL Y)) := rg_of_own hown
  have Rn2 : RS.right (RS.notL Y) = true := RS.notL_right RY
  have hlnn2 : (RS.notL Y).length ≤ Y.length + 1 := notFrom_length Y 0
  have Hn2 := Nn2
  have hBn := hB.trans (hb.mono hB.size)
  have hcn := (hb.cell (p := ⟨w.heap.size, 0, none⟩) (by exact hpl)).trans hcp
  have hpn : w.heap.size < w11.heap.size := Nat.lt_of_lt_of_le hpl hb.size
  have HFn : Hid (w11.frozen? ⟨w.heap.size, 0, none⟩ = false ∧ ∀ k, 1 ≤ k → w11.cell? ⟨w.heap.size, k, none⟩ = none) := ⟨(hb.frozen (p := ⟨w.heap.size, 0, none⟩) (by exact hpl)).trans HF.out.1, fun k hk => (hb.cell (p := ⟨w.heap.size, k, none⟩) (by exact hpl)).trans (HF.out.2 k hk)⟩
  clear hB hcp hpl HF Ha HX HY HZ Hl2 Hn2
  have Ha : Hid (RgAt w11.heap.size w11 (.slice aoa A.length ca) A) := Na.out
  have HX : Hid (RgAt w11.heap.size w11 vX X) := NX.out
  have HY : Hid (RgAt w11.heap.size w11 vY Y) := NY.out
  have HZ : Hid (RgAt w11.heap.size w11 vZ Z) := NZ.out
  have Hl2 : Hid (RgAt w11.heap.size w11 vl2 (RS.lessL X Y)) := Nl2.out
  have Hn2 : Hid (RgAt w11.heap.size w11 vn2 (RS.notL Y)) := Nn2.out
  have hB := hBn
  have hcp := hcn
  have hpl := hpn
  have HF : Hid (w11.frozen? ⟨w.heap.size, 0, none⟩ = false ∧ ∀ k, 1 ≤ k → w11.cell? ⟨w.heap.size, k, none⟩ = none) := HFn.out
  clear hBn hcn hpn HFn hb Na NX NY NZ Nl2 Nn2 hown
  go_wp2_with fail
  refine (and_any _ _ X (RS.notL Y) (by omega) (by omega) _ HX.out Hn2.out).mono ?_
  rintro e w12 ⟨va2, rfl, hown, hb⟩
  have Na : Hid (RgAt w12.heap.size w12 (.slice aoa A.length ca) A) := Ha.out.below hb _ hb.size
  have NX : Hid (RgAt w12.heap.size w12 vX X) := HX.out.below hb _ hb.size
  have NY : Hid (RgAt w12.heap.size w12 vY Y) := HY.out.below hb _ hb.size
  have NZ : Hid (RgAt w12.heap.size w12 vZ Z) := HZ.out.below hb _ hb.size
  have Nl2 : Hid (RgAt w12.heap.size w12 vl2 (RS.lessL X Y)) := Hl2.out.below hb _ hb.size
  have Nn2 : Hid (RgAt w12.heap.size w12 vn2 (RS.notL Y)) := Hn2.out.below hb _ hb.size
  have Na2 : Hid (RgAt w12.heap.size w12 va2 (RS.andL X (RS.notL Y))) := rg_of_own hown
  have Ra2 : RS.right (RS.andL X (RS.notL Y)) = true := RS.andL_right RX Rn2
  have hlna2 : (RS.andL X (RS.notL Y)).length ≤ X.length + (RS.notL Y).length := andL_length _ _ _ (Nat.le_refl _)
  have Ha2 := Na2
  have hBn := hB.trans (hb.mono hB.size)
  have hcn := (hb.cell (p := ⟨w.heap.size, 0, none⟩) (by exact hpl)).trans hcp
  have hpn : w.heap.size < w12.heap.size := Nat.lt_of_lt_of_le hpl hb.size
  have HFn : Hid (w12.frozen? ⟨w.heap.size, 0, none⟩ = false ∧ ∀ k, 1 ≤ k → w12.cell? ⟨w.heap.size, k, none⟩ = none) := ⟨(hb.frozen (p := ⟨w.heap.size, 0, none⟩) (by exact hpl)).trans HF.out.1, fun k hk => (hb.cell (p := ⟨w.heap.size, k, none⟩) (by exact hpl)).trans (HF.out.2 k hk)⟩
  clear hB hcp hpl HF Ha HX HY HZ Hl2 Hn2 Ha2
  have Ha : Hid (RgAt w12.heap.size w12 (.slice aoa A.length ca) A) := Na.out
  have HX : Hid (RgAt w12.heap.size w12 vX X) := NX.out
  have HY : Hid (RgAt w12.heap.size w12 vY Y) := NY.out
  have HZ : Hid (RgAt w12.heap.size w12 vZ Z) := NZ.out
  have Hl2 : Hid (RgAt w12.heap.size w12 vl2 (RS.lessL X Y)) := Nl2.out
  have Hn2 : Hid (RgAt w12.heap.size w12 vn2 (RS.notL Y)) := Nn2.out
  have Ha2 : Hid (RgAt w12.heap.size w12 va2 (RS.andL X (RS.notL Y))) := Na2.out
  have hB := hBn
  have hcp := hcn
  have hpl := hpn
  have HF : Hid (w12.frozen? ⟨w.heap.size, 0, none⟩ = false ∧ ∀ k, 1 ≤ k → w12.cell? ⟨w.heap.size, k, none⟩ = none) := HFn.out
  clear hBn hcn hpn HFn hb Na NX NY NZ Nl2 Nn2 Na2 hown
  clear Hn2
  go_wp2_with fail
  refine (same_any _ _ (RS.lessL X Y) (by omega) Rl2 _ Hl2.out Ha2.out).mono ?_
  rintro e w13 ⟨rfl, hb⟩
  have Na : Hid (RgAt w13.heap.size w13 (.slice aoa A.length ca) A) := Ha.out.below hb _ hb.size
  have NX : Hid (RgAt w13.heap.size w13 vX X) := HX.out.below hb _ hb.size
  have NY : Hid (RgAt w13.heap.size w13 vY Y) := HY.out.below hb _ hb.size
  have NZ : Hid (RgAt w13.heap.size w13 vZ Z) := HZ.out.below hb _ hb.size
  have Nl2 : Hid (RgAt w13.heap.size w13 vl2 (RS.lessL X Y)) := Hl2.out.below hb _ hb.size
  have Na2 : Hid (RgAt w13.heap.size w13 va2 (RS.andL X (RS.notL Y))) := Ha2.out.below hb _ hb.size
  have hBn := hB.trans (hb.mono hB.size)
  have hcn := (hb.cell (p := ⟨w.heap.size, 0, none⟩) (by exact hpl)).trans hcp
  have hpn : w.heap.size < w13.heap.size := Nat.lt_of_lt_of_le hpl hb.size
  have HFn : Hid (w13.frozen? ⟨w.heap.size, 0, none⟩ = false ∧ ∀ k, 1 ≤ k → w13.cell? ⟨w.heap.size, k, none⟩ = none) := ⟨(hb.frozen (p := ⟨w.heap.size, 0, none⟩) (by exact hpl)).trans HF.out.1, fun k hk => (hb.cell (p := ⟨w.heap.size, k, none⟩) (by exact hpl)).trans (HF.out.2 k hk)⟩
  clear hB hcp hpl HF Ha HX HY HZ Hl2 Ha2
  have Ha : Hid (RgAt w13.heap.size w13 (.slice aoa A.length ca) A) := Na.out
  have HX : Hid (RgAt w13.heap.size w13 vX X) := NX.out
  have HY : Hid (RgAt w13.heap.size w13 vY Y) := NY.out
  have HZ : Hid (RgAt w13.heap.size w13 vZ Z) := NZ.out
  have Hl2 : Hid (RgAt w13.heap.size w13 vl2 (RS.lessL X Y)) := Nl2.out
  have Ha2 : Hid (RgAt w13.heap.size w13 va2 (RS.andL X (RS.notL Y))) := Na2.out
  have hB := hBn
  have hcp := hcn
  have hpl := hpn
  have HF : Hid (w13.frozen? ⟨w.heap.size, 0, none⟩ = false ∧ ∀ k, 1 ≤ k → w13.cell? ⟨w.heap.size, k, none⟩ = none) := HFn.out
  clear hBn hcn hpn HFn hb Na NX NY NZ Nl2 Na2
  clear Hl2
  clear Ha2
  go_wp2_with fail
  refine (not_any _ X (by omega) _ HX.out RX).mono ?_
  rintro e w14 ⟨vn3, rfl, hown, hb⟩
  have Na : Hid (RgAt w14.heap.size w14 (.slice aoa A.length ca) A) := Ha.out.below hb _ hb.size
  have NX : Hid (RgAt w14.heap.size w14 vX X) := HX.out.below hb _ hb.size
  have NY : Hid (RgAt w14.heap.size w14 vY Y) := HY.out.below hb _ hb.size
  have NZ : Hid (RgAt w14.heap.size w14 vZ Z) := HZ.out.below hb _ hb.size
  have Nn3 : Hid (RgAt w14.heap.size w14 vn3 (RS.notL X)) := rg_of_own hown
  have Rn3 : RS.right (RS.notL X) = true := RS.notL_right RX
  have hlnn3 : (RS.notL X).length ≤ X.length + 1 := notFrom_length X 0
  have Hn3 := Nn3
  have hBn := hB.trans (hb.mono hB.size)
  have hcn := (hb.cell (p := ⟨w.heap.size, 0, none⟩) (by exact hpl)).trans hcp
  have hpn : w.heap.size < w14.heap.size := Nat.lt_of_lt_of_le hpl hb.size
  have HFn : Hid (w14.frozen? ⟨w.heap.size, 0, none⟩ = false ∧ ∀ k, 1 ≤ k → w14.cell? ⟨w.heap.size, k, none⟩ = none) := ⟨(hb.frozen (p := ⟨w.heap.size, 0, none⟩) (by exact hpl)).trans HF.out.1, fun k hk => (hb.cell (p := ⟨w.heap.size, k, none⟩) (by exact hpl)).trans (HF.out.2 k hk)⟩
  clear hB hcp hpl HF Ha HX HY HZ Hn3
  have Ha : Hid (RgAt w14.heap.size w14 (.slice aoa A.length ca) A) := Na.out
  have HX : Hid (RgAt w14.heap.size w14 vX X) := NX.out
  have HY : Hid (RgAt w14.heap.size w14 vY Y) := NY.out
  have HZ : Hid (RgAt w14.heap.size w14 vZ Z) := NZ.out
  have Hn3 : Hid (RgAt w14.heap.size w14 vn3 (RS.notL X)) := Nn3.out
  have hB := hBn
  have hcp := hcn
  have hpl := hpn
  have HF : Hid (w14.frozen? ⟨w.heap.size, 0, none⟩ = false ∧ ∀ k, 1 ≤ k → w14.cell? ⟨w.heap.size, k, none⟩ = none) := HFn.out
  clear hBn hcn hpn HFn hb Na NX NY NZ Nn3 hown
  go_wp2_with fail
  refine (not_any _ (RS.notL X) (by omega) _ Hn3.out Rn3).mono ?_
  rintro e w15 ⟨vn4, rfl, hown, hb⟩
  have Na : Hid (RgAt w15.heap.size w15 (.slice aoa A.length ca) A) := Ha.out.below hb _ hb.size
  have NX : Hid (RgAt w15.heap.size w15 vX X) := HX.out.below hb _ hb.size
  have NY : Hid (RgAt w15.heap.size w15 vY Y) := HY.out.below hb _ hb.size
  have NZ : Hid (RgAt w15.heap.size w15 vZ Z) := HZ.out.below hb _ hb.size
  have Nn3 : Hid (RgAt w15.heap.size w15 vn3 (RS.notL X)) := Hn3.out.below hb _ hb.size
  have Nn4 : Hid (RgAt w15.heap.size w15 vn4 (RS.notL (RS.notL X))) := rg_of_own hown
  have Rn4 : RS.right (RS.notL (RS.notL X)) = true := RS.notL_right Rn3
  have hlnn4 : (RS.notL (RS.notL X)).length ≤ (RS.notL X).length + 1 := notFrom_length (RS.notL X) 0
  have Hn4 := Nn4
  have hBn := hB.trans (hb.mono hB.size)
  have hcn := (hb.cell (p := ⟨w.heap.size, 0, none⟩) (by exact hpl)).trans hcp
  have hpn : w.heap.size < w15.heap.size := Nat.lt_of_lt_of_le hpl hb.size
  have HFn : Hid (w15.frozen? ⟨w.heap.size, 0, none⟩ = false ∧ ∀ k, 1 ≤ k → w15.cell? ⟨w.heap.size, k, none⟩ = none) := ⟨(hb.frozen (p := ⟨w.heap.size, 0, none⟩) (by exact hpl)).trans HF.out.1, fun k hk => (hb.cell (p := ⟨w.heap.size, k, none⟩) (by exact hpl)).trans (HF.out.2 k hk)⟩
  clear hB hcp hpl HF Ha HX HY HZ Hn3 Hn4
  have Ha : Hid (RgAt w15.heap.size w15 (.slice aoa A.length ca) A) := Na.out
  have HX : Hid (RgAt w15.heap.size w15 vX X) := NX.out
  have HY : Hid (RgAt w15.heap.size w15 vY Y) := NY.out
  have HZ : Hid (RgAt w15.heap.size w15 vZ Z) := NZ.out
  have Hn3 : Hid (RgAt w15.heap.size w15 vn3 (RS.notL X)) := Nn3.out
  have Hn4 : Hid (RgAt w15.heap.size w15 vn4 (RS.notL (RS.notL X))) := Nn4.out
  have hB := hBn
  have hcp := hcn
  have hpl := hpn
  have HF : Hid (w15.frozen? ⟨w.heap.size, 0, none⟩ = false ∧ ∀ k, 1 ≤ k → w15.cell? ⟨w.heap.size, k, none⟩ = none) := HFn.out
  clear hBn hcn hpn HFn hb Na NX NY NZ Nn3 Nn4 hown
  clear Hn3
  go_wp2_with fail
  refine (same_any _ _ X (by omega) RX _ (by have := Hn4.out; rwa [RS.alg_not_not RX] at this) HX.out).mono ?_
  rintro e w16 ⟨rfl, hb⟩
  have Na : Hid (RgAt w16.heap.size w16 (.slice aoa A.length ca) A) := Ha.out.below hb _ hb.size
  have NX : Hid (RgAt w16.heap.size w16 vX X) := HX.out.below hb _ hb.size
  have NY : Hid (RgAt w16.heap.size w16 vY Y) := HY.out.below hb _ hb.size
  have NZ : Hid (RgAt w16.heap.size w16 vZ Z) := HZ.out.below hb _ hb.size
  have Nn4 : Hid (RgAt w16.heap.size w16 vn4 (RS.notL (RS.notL X))) := Hn4.out.below hb _ hb.size
  have hBn := hB.trans (hb.mono hB.size)
  have hcn := (hb.cell (p := ⟨w.heap.size, 0, none⟩) (by exact hpl)).trans hcp
  have hpn : w.heap.size < w16.heap.size := Nat.lt_of_lt_of_le hpl hb.size
  have HFn : Hid (w16.frozen? ⟨w.heap.size, 0, none⟩ = false ∧ ∀ k, 1 ≤ k → w16.cell? ⟨w.heap.size, k, none⟩ = none) := ⟨(hb.frozen (p := ⟨w.heap.size, 0, none⟩) (by exact hpl)).trans HF.out.1, fun k hk => (hb.cell (p := ⟨w.heap.size, k, none⟩) (by exact hpl)).trans (HF.out.2 k hk)⟩
  clear hB hcp hpl HF Ha HX HY HZ Hn4
  have Ha : Hid (RgAt w16.heap.size w16 (.slice aoa A.length ca) A) := Na.out
  have HX : Hid (RgAt w16.heap.size w16 vX X) := NX.out
  have HY : Hid (RgAt w16.heap.size w16 vY Y) := NY.out
  have HZ : Hid (RgAt w16.heap.size w16 vZ Z) := NZ.out
  have Hn4 : Hid (RgAt w16.heap.size w16 vn4 (RS.notL (RS.notL X))) := Nn4.out
  have hB := hBn
  have hcp := hcn
  have hpl := hpn
  have HF : Hid (w16.frozen? ⟨w.heap.size, 0, none⟩ = false ∧ ∀ k, 1 ≤ k → w16.cell? ⟨w.heap.size, k, none⟩ = none) := HFn.out
  clear hBn hcn hpn HFn hb Na NX NY NZ Nn4
  clear Hn4
  go_wp2_with fail
  refine (or_any _ _ X Y (by omega) (by omega) _ HX.out HY.out).mono ?_
  rintro e w17 ⟨vr4, r4, rfl, hofr4, hlnr4, hown, hb⟩
  have Na : Hid (RgAt w17.heap.size w17 (.slice aoa A.length ca) A) := Ha.out.below hb _ hb.size
  have NX : Hid (RgAt w17.heap.size w17 vX X) := HX.out.below hb _ hb.size
  have NY : Hid (RgAt w17.heap.size w17 vY Y) := HY.out.below hb _ hb.size
  have NZ : Hid (RgAt w17.heap.size w17 vZ Z) := HZ.out.below hb _ hb.size
  have Nr4 : Hid (RgAt w17.heap.size w17 vr4 r4) := rg_of_own hown
  have Or4 : Hid (RS.IsOf (X ++ Y) r4) := hofr4
  have Rr4 : RS.right r4 = true := hofr4.1
  clear hofr4
  have Hr4 := Nr4
  have hBn := hB.trans (hb.mono hB.size)
  have hcn := (hb.cell (p := ⟨w.heap.size, 0, none⟩) (by exact hpl)).trans hcp
  have hpn : w.heap.size < w17.heap.size := Nat.lt_of_lt_of_le hpl hb.size
  have HFn : Hid (w17.frozen? ⟨w.heap.size, 0, none⟩ = false ∧ ∀ k, 1 ≤ k → w17.cell? ⟨w.heap.size, k, none⟩ = none) := ⟨(hb.frozen (p := ⟨w.heap.size, 0, none⟩) (by exact hpl)).trans HF.out.1, fun k hk => (hb.cell (p := ⟨w.heap.size, k, none⟩) (by exact hpl)).trans (HF.out.2 k hk)⟩
  clear hB hcp hpl HF Ha HX HY HZ Hr4
  have Ha : Hid (RgAt w17.heap.size w17 (.slice aoa A.length ca) A) := Na.out
  have HX : Hid (RgAt w17.heap.size w17 vX X) := NX.out
  have HY : Hid (RgAt w17.heap.size w17 vY Y) := NY.out
  have HZ : Hid (RgAt w17.heap.size w17 vZ Z) := NZ.out
  have Hr4 : Hid (RgAt w17.heap.size w17 vr4 r4) := Nr4.out
  have hB := hBn
  have hcp := hcn
  have hpl := hpn
  have HF : Hid (w17.frozen? ⟨w.heap.size, 0, none⟩ = false ∧ ∀ k, 1 ≤ k → w17.cell? ⟨w.heap.size, k, none⟩ = none) := HFn.out
  clear hBn hcn hpn HFn hb Na NX NY NZ Nr4 hown
  go_wp2_with fail
  refine (or_any _ _ Y X (by omega) (by omega) _ HY.out HX.out).mono ?_
  rintro e w18 ⟨vr5, r5, rfl, hofr5, hlnr5, hown, hb⟩
  have Na : Hid (RgAt w18.heap.size w18 (.slice aoa A.length ca) A) := Ha.out.below hb _ hb.size
  have NX : Hid (RgAt w18.heap.size w18 vX X) := HX.out.below hb _ hb.size
  have NY : Hid (RgAt w18.heap.size w18 vY Y) := HY.out.below hb _ hb.size
  have NZ : Hid (RgAt w18.heap.size w18 vZ Z) := HZ.out.below hb _ hb.size
  have Nr4 : Hid (RgAt w18.heap.size w18 vr4 r4) := Hr4.out.below hb _ hb.size
  have Nr5 : Hid (RgAt w18.heap.size w18 vr5 r5) := rg_of_own hown
  have Or5 : Hid (RS.IsOf (Y ++ X) r5) := hofr5
  have Rr5 : RS.right r5 = true := hofr5.1
  clear hofr5
  have Hr5 := Nr5
  have hBn := hB.trans (hb.mono hB.size)
  have hcn := (hb.cell (p := ⟨w.heap.size, 0, none⟩) (by exact hpl)).trans hcp
  have hpn : w.heap.size < w18.heap.size := Nat.lt_of_lt_of_le hpl hb.size
  have HFn : Hid (w18.frozen? ⟨w.heap.size, 0, none⟩ = false ∧ ∀ k, 1 ≤ k → w18.cell? ⟨w.heap.size, k, none⟩ = none) := ⟨(hb.frozen (p := ⟨w.heap.size, 0, none⟩) (by exact hpl)).trans HF.out.1, fun k hk => (hb.cell (p := ⟨w.heap.size, k, none⟩) (by exact hpl)).trans (HF.out.2 k hk)⟩
  clear hB hcp hpl HF Ha HX HY HZ Hr4 Hr5
  have Ha : Hid (RgAt w18.heap.size w18 (.slice aoa A.length ca) A) := Na.out
  have HX : Hid (RgAt w18.heap.size w18 vX X) := NX.out
  have HY : Hid (RgAt w18.heap.size w18 vY Y) := NY.out
  have HZ : Hid (RgAt w18.heap.size w18 vZ Z) := NZ.out
  have Hr4 : Hid (RgAt w18.heap.size w18 vr4 r4) := Nr4.out
  have Hr5 : Hid (RgAt w18.heap.size w18 vr5 r5) := Nr5.out
  have hB := hBn
  have hcp := hcn
  have hpl := hpn
  have HF : Hid (w18.frozen? ⟨w.heap.size, 0, none⟩ = false ∧ ∀ k, 1 ≤ k → w18.cell? ⟨w.heap.size, k, none⟩ = none) := HFn.out
  clear hBn hcn hpn HFn hb Na NX NY NZ Nr4 Nr5 hown
  go_wp2_with fail
  refine (same_any _ _ r4 (by omega) Rr4 _ Hr4.out (by have := Hr5.out; rwa [RS.alg_or_comm RX RY Or4.out Or5.out] at this)).mono ?_
  rintro e w19 ⟨rfl, hb⟩
  have Na : Hid (RgAt w19.heap.size w19 (.slice aoa A.length ca) A) := Ha.out.below hb _ hb.size
  have NX : Hid (RgAt w19.heap.size w19 vX X) := HX.out.below hb _ hb.size
  have NY : Hid (RgAt w19.heap.size w19 vY Y) := HY.out.below hb _ hb.size
  have NZ : Hid (RgAt w19.heap.size w19 vZ Z) := HZ.out.below hb _ hb.size
  have Nr4 : Hid (RgAt w19.heap.size w19 vr4 r4) := Hr4.out.below hb _ hb.size
  have Nr5 : Hid (RgAt w19.heap.size w19 vr5 r5) := Hr5.out.below hb _ hb.size
  have hBn := hB.trans (hb.mono hB.size)
  have hcn := (hb.cell (p := ⟨w.heap.size, 0, none⟩) (by exact hpl)).trans hcp
  have hpn : w.heap.size < w19.heap.size := Nat.lt_of_lt_of_le hpl hb.size
  have HFn : Hid (w19.frozen? ⟨w.heap.size, 0, none⟩ = false ∧ ∀ k, 1 ≤ k → w19.cell? ⟨w.heap.size, k, none⟩ = none) := ⟨(hb.frozen (p := ⟨w.heap.size, 0, none⟩) (by exact hpl)).trans HF.out.1, fun k hk => (hb.cell (p := ⟨w.heap.size, k, none⟩) (by exact hpl)).trans (HF.out.2 k hk)⟩
  clear hB hcp hpl HF Ha HX HY HZ Hr4 Hr5
  have Ha : Hid (RgAt w19.heap.size w19 (.slice aoa A.length ca) A) := Na.out
  have HX : Hid (RgAt w19.heap.size w19 vX X) := NX.out
  have HY : Hid (RgAt w19.heap.size w19 vY Y) := NY.out
  have HZ : Hid (RgAt w19.heap.size w19 vZ Z) := NZ.out
  have Hr4 : Hid (RgAt w19.heap.size w19 vr4 r4) := Nr4.out
  have Hr5 : Hid (RgAt w19.heap.size w19 vr5 r5) := Nr5.out
  have hB := hBn
  have hcp := hcn
  have hpl := hpn
  have HF : Hid (w19.frozen? ⟨w.heap.size, 0, none⟩ = false ∧ ∀ k, 1 ≤ k → w19.cell? ⟨w.heap.size, k, none⟩ = none) := HFn.out
  clear hBn hcn hpn HFn hb Na NX NY NZ Nr4 Nr5
  clear Hr4
  clear Hr5
  go_wp2_with fail
  refine (or_any _ _ Y Z (by omega) (by omega) _ HY.out HZ.out).mono ?_
  rintro e w20 ⟨vr6, r6, rfl, hofr6, hlnr6, hown, hb⟩
  have Na : Hid (RgAt w20.heap.size w20 (.slice aoa A.length ca) A) := Ha.out.below hb _ hb.size
  have NX : Hid (RgAt w20.heap.size w20 vX X) := HX.out.below hb _ hb.size
  have NY : Hid (RgAt w20.heap.size w20 vY Y) := HY.out.below hb _ hb.size
  have NZ : Hid (RgAt w20.heap.size w20 vZ Z) := HZ.out.below hb _ hb.size
  have Nr6 : Hid (RgAt w20.heap.size w20 vr6 r6) := rg_of_own hown
  have Or6 : Hid (RS.IsOf (Y ++ Z) r6) := hofr6
  have Rr6 : RS.right r6 = true := hofr6.1
  clear hofr6
  have Hr6 := Nr6
  have hBn := hB.trans (hb.mono hB.size)
  have hcn := (hb.cell (p := ⟨w.heap.size, 0, none⟩) (by exact hpl)).trans hcp
  have hpn : w.heap.size < w20.heap.size := Nat.lt_of_lt_of_le hpl hb.size
  have HFn : Hid (w20.frozen? ⟨w.heap.size, 0, none⟩ = false ∧ ∀ k, 1 ≤ k → w20.cell? ⟨w.heap.size, k, none⟩ = none) := ⟨(hb.frozen (p := ⟨w.heap.size, 0, none⟩) (by exact hpl)).trans HF.out.1, fun k hk => (hb.cell (p := ⟨w.heap.size, k, none⟩) (by exact hpl)).trans (HF.out.2 k hk)⟩
  clear hB hcp hpl HF Ha HX HY HZ Hr6
  have Ha : Hid (RgAt w20.heap.size w20 (.slice aoa A.length ca) A) := Na.out
  have HX : Hid (RgAt w20.heap.size w20 vX X) := NX.out
  have HY : Hid (RgAt w20.heap.size w20 vY Y) := NY.out
  have HZ : Hid (RgAt w20.heap.size w20 vZ Z) := NZ.out
  have Hr6 : Hid (RgAt w20.heap.size w20 vr6 r6) := Nr6.out
  have hB := hBn
  have hcp := hcn
  have hpl := hpn
  have HF : Hid (w20.frozen? ⟨w.heap.size, 0, none⟩ = false ∧ ∀ k, 1 ≤ k → w20.cell? ⟨w.heap.size, k, none⟩ = none) := HFn.out
  clear hBn hcn hpn HFn hb Na NX NY NZ Nr6 hown
  go_wp2_with fail
  refine (and_any _ _ X r6 (by omega) (by omega) _ HX.out Hr6.out).mono ?_
  rintro e w21 ⟨va6, rfl, hown, hb⟩
  have Na : Hid (RgAt w21.heap.size w21 (.slice aoa A.length ca) A) := Ha.out.below hb _ hb.size
  have NX : Hid (RgAt w21.heap.size w21 vX X) := HX.out.below hb _ hb.size
  have NY : Hid (RgAt w21.heap.size w21 vY Y) := HY.out.below hb _ hb.size
  have NZ : Hid (RgAt w21.heap.size w21 vZ Z) := HZ.out.below hb _ hb.size
  have Nr6 : Hid (RgAt w21.heap.size w21 vr6 r6) := Hr6.out.below hb _ hb.size
  have Na6 : Hid (RgAt w21.heap.size w21 va6 (RS.andL X r6)) := rg_of_own hown
  have Ra6 : RS.right (RS.andL X r6) = true := RS.andL_right RX Rr6
  have hlna6 : (RS.andL X r6).length ≤ X.length + r6.length := andL_length _ _ _ (Nat.le_refl _)
  have Ha6 := Na6
  have hBn := hB.trans (hb.mono hB.size)
  have hcn := (hb.cell (p := ⟨w.heap.size, 0, none⟩) (by exact hpl)).trans hcp
  have hpn : w.heap.size < w21.heap.size := Nat.lt_of_lt_of_le hpl hb.size
  have HFn : Hid (w21.frozen? ⟨w.heap.size, 0, none⟩ = false ∧ ∀ k, 1 ≤ k → w21.cell? ⟨w.heap.size, k, none⟩ = none) := ⟨(hb.frozen (p := ⟨w.heap.size, 0, none⟩) (by exact hpl)).trans HF.out.1, fun k hk => (hb.cell (p := ⟨w.heap.size, k, none⟩) (by exact hpl)).trans (HF.out.2 k hk)⟩
  clear hB hcp hpl HF Ha HX HY HZ Hr6 Ha6
  have Ha : Hid (RgAt w21.heap.size w21 (.slice aoa A.length ca) A) := Na.out
  have HX : Hid (RgAt w21.heap.size w21 vX X) := NX.out
  have HY : Hid (RgAt w21.heap.size w21 vY Y) := NY.out
  have HZ : Hid (RgAt w21.heap.size w21 vZ Z) := NZ.out
  have Hr6 : Hid (RgAt w21.heap.size w21 vr6 r6) := Nr6.out
  have Ha6 : Hid (RgAt w21.heap.size w21 va6 (RS.andL X r6)) := Na6.out
  have hB := hBn
  have hcp := hcn
  have hpl := hpn
  have HF : Hid (w21.frozen? ⟨w.heap.size, 0, none⟩ = false ∧ ∀ k, 1 ≤ k → w21.cell? ⟨w.heap.size, k, none⟩ = none) := HFn.out
  clear hBn hcn hpn HFn hb Na NX NY NZ Nr6 Na6 hown
  clear Hr6
  go_wp2_with fail
  refine (and_any _ _ X Y (by omega) (by omega) _ HX.out HY.out).mono ?_
  rintro e w22 ⟨va7, rfl, hown, hb⟩
  have Na : Hid (RgAt w22.heap.size w22 (.slice aoa A.length ca) A) := Ha.out.below hb _ hb.size
  have NX : Hid (RgAt w22.heap.size w22 vX X) := HX.out.below hb _ hb.size
  have NY : Hid (RgAt w22.heap.size w22 vY Y) := HY.out.below hb _ hb.size
  have NZ : Hid (RgAt w22.heap.size w22 vZ Z) := HZ.out.below hb _ hb.size
  have Na6 : Hid (RgAt w22.heap.size w22 va6 (RS.andL X r6)) := Ha6.out.below hb _ hb.size
  have Na7 : Hid (RgAt w22.heap.size w22 va7 (RS.andL X Y)) := rg_of_own hown
  have Ra7 : RS.right (RS.andL X Y) = true := RS.andL_right RX RY
  have hlna7 : (RS.andL X Y).length ≤ X.length + Y.length := andL_length _ _ _ (Nat.le_refl _)
  have Ha7 := Na7
  have hBn := hB.trans (hb.mono hB.size)
  have hcn := (hb.cell (p := ⟨w.heap.size, 0, none⟩) (by exact hpl)).trans hcp
  have hpn : w.heap.size < w22.heap.size := Nat.lt_of_lt_of_le hpl hb.size
  have HFn : Hid (w22.frozen? ⟨w.heap.size, 0, none⟩ = false ∧ ∀ k, 1 ≤ k → w22.cell? ⟨w.heap.size, k, none⟩ = none) := ⟨(hb.frozen (p := ⟨w.heap.size, 0, none⟩) (by exact hpl)).trans HF.out.1, fun k hk => (hb.cell (p := ⟨w.heap.size, k, none⟩) (by exact hpl)).trans (HF.out.2 k hk)⟩
  clear hB hcp hpl HF Ha HX HY HZ Ha6 Ha7
  have Ha : Hid (RgAt w22.heap.size w22 (.slice aoa A.length ca) A) := Na.out
  have HX : Hid (RgAt w22.heap.size w22 vX X) := NX.out
  have HY : Hid (RgAt w22.heap.size w22 vY Y) := NY.out
  have HZ : Hid (RgAt w22.heap.size w22 vZ Z) := NZ.out
  have Ha6 : Hid (RgAt w22.heap.size w22 va6 (RS.andL X r6)) := Na6.out
  have Ha7 : Hid (RgAt w22.heap.size w22 va7 (RS.andL X Y)) := Na7.out
  have hB := hBn
  have hcp := hcn
  have hpl := hpn
  have HF : Hid (w22.frozen? ⟨w.heap.size, 0, none⟩ = false ∧ ∀ k, 1 ≤ k → w22.cell? ⟨w.heap.size, k, none⟩ = none) := HFn.out
  clear hBn hcn hpn HFn hb Na NX NY NZ Na6 Na7 hown
  go_wp2_with fail
  refine (and_any _ _ X Z (by omega) (by omega) _ HX.out HZ.out).mono ?_
  rintro e w23 ⟨va8, rfl, hown, hb⟩
  have Na : Hid (RgAt w23.heap.size w23 (.slice aoa A.length ca) A) := Ha.out.below hb _ hb.size
  have NX : Hid (RgAt w23.heap.size w23 vX X) := HX.out.below hb _ hb.size
  have NY : Hid (RgAt w23.heap.size w23 vY Y) := HY.out.below hb _ hb.size
  have NZ : Hid (RgAt w23.heap.size w23 vZ Z) := HZ.out.below hb _ hb.size
  have Na6 : Hid (RgAt w23.heap.size w23 va6 (RS.andL X r6)) := Ha6.out.below hb _ hb.size
  have Na7 : Hid (RgAt w23.heap.size w23 va7 (RS.andL X Y)) := Ha7.out.below hb _ hb.size
  have Na8 : Hid (RgAt w23.heap.size w23 va8 (RS.andL X Z)) := rg_of_own hown
  have Ra8 : RS.right (RS.andL X Z) = true := RS.andL_right RX RZ
  have hlna8 : (RS.andL X Z).length ≤ X.length + Z.length := andL_length _ _ _ (Nat.le_refl _)
  have Ha8 := Na8
  have hBn := hB.trans (hb.mono hB.size)
  have hcn := (hb.cell (p := ⟨w.heap.size, 0, none⟩) (by exact hpl)).trans hcp
  have hpn : w.heap.size < w23.heap.size := Nat.lt_of_lt_of_le hpl hb.size
  have HFn : Hid (w23.frozen? ⟨w.heap.size, 0, none⟩ = false ∧ ∀ k, 1 ≤ k → w23.cell? ⟨w.heap.size, k, none⟩ = none) := ⟨(hb.frozen (p := ⟨w.heap.size, 0, none⟩) (by exact hpl)).trans HF.out.1, fun k hk => (hb.cell (p := ⟨w.heap.size, k, none⟩) (by exact hpl)).trans (HF.out.2 k hk)⟩
  clear hB hcp hpl HF Ha HX HY HZ Ha6 Ha7 Ha8
  have Ha : Hid (RgAt w23.heap.size w23 (.slice aoa A.length ca) A) := Na.out
  have HX : Hid (RgAt w23.heap.size w23 vX X) := NX.out
  have HY : Hid (RgAt w23.heap.size w23 vY Y) := NY.out
  have HZ : Hid (RgAt w23.heap.size w23 vZ Z) := NZ.out
  have Ha6 : Hid (RgAt w23.heap.size w23 va6 (RS.andL X r6)) := Na6.out
  have Ha7 : Hid (RgAt w23.heap.size w23 va7 (RS.andL X Y)) := Na7.out
  have Ha8 : Hid (RgAt w23.heap.size w23 va8 (RS.andL X Z)) := Na8.out
  have hB := hBn
  have hcp := hcn
  have hpl := hpn
  have HF : Hid (w23.frozen? ⟨w.heap.size, 0, none⟩ = false ∧ ∀ k, 1 ≤ k → w23.cell? ⟨w.heap.size, k, none⟩ = none) := HFn.out
  clear hBn hcn hpn HFn hb Na NX NY NZ Na6 Na7 Na8 hown
  go_wp2_with fail
  refine (or_any _ _ (RS.andL X Y) (RS.andL X Z) (by omega) (by omega) _ Ha7.out Ha8.out).mono ?_
  rintro e w24 ⟨vr7, r7, rfl, hofr7, hlnr7, hown, hb⟩
  have Na : Hid (RgAt w24.heap.size w24 (.slice aoa A.length ca) A) := Ha.out.below hb _ hb.size
  have NX : Hid (RgAt w24.heap.size w24 vX X) := HX.out.below hb _ hb.size
  have NY : Hid (RgAt w24.heap.size w24 vY Y) := HY.out.below hb _ hb.size
  have NZ : Hid (RgAt w24.heap.size w24 vZ Z) := HZ.out.below hb _ hb.size
  have Na6 : Hid (RgAt w24.heap.size w24 va6 (RS.andL X r6)) := Ha6.out.below hb _ hb.size
  have Na7 : Hid (RgAt w24.heap.size w24 va7 (RS.andL X Y)) := Ha7.out.below hb _ hb.size
  have Na8 : Hid (RgAt w24.heap.size w24 va8 (RS.andL X Z)) := Ha8.out.below hb _ hb.size
  have Nr7 : Hid (RgAt w24.heap.size w24 vr7 r7) := rg_of_own hown
  have Or7 : Hid (RS.IsOf ((RS.andL X Y) ++ (RS.andL X Z)) r7) := hofr7
  have Rr7 : RS.right r7 = true := hofr7.1
  clear hofr7
  have Hr7 := Nr7
  have hBn := hB.trans (hb.mono hB.size)
  have hcn := (hb.cell (p := ⟨w.heap.size, 0, none⟩) (by exact hpl)).trans hcp
  have hpn : w.heap.size < w24.heap.size := Nat.lt_of_lt_of_le hpl hb.size
  have HFn : Hid (w24.frozen? ⟨w.heap.size, 0, none⟩ = false ∧ ∀ k, 1 ≤ k → w24.cell? ⟨w.heap.size, k, none⟩ = none) := ⟨(hb.frozen (p := ⟨w.heap.size, 0, none⟩) (by exact hpl)).trans HF.out.1, fun k hk => (hb.cell (p := ⟨w.heap.size, k, none⟩) (by exact hpl)).trans (HF.out.2 k hk)⟩
  clear hB hcp hpl HF Ha HX HY HZ Ha6 Ha7 Ha8 Hr7
  have Ha : Hid (RgAt w24.heap.size w24 (.slice aoa A.length ca) A) := Na.out
  have HX : Hid (RgAt w24.heap.size w24 vX X) := NX.out
  have HY : Hid (RgAt w24.heap.size w24 vY Y) := NY.out
  have HZ : Hid (RgAt w24.heap.size w24 vZ Z) := NZ.out
  have Ha6 : Hid (RgAt w24.heap.size w24 va6 (RS.andL X r6)) := Na6.out
  have Ha7 : Hid (RgAt w24.heap.size w24 va7 (RS.andL X Y)) := Na7.out
  have Ha8 : Hid (RgAt w24.heap.size w24 va8 (RS.andL X Z)) := Na8.out
  have Hr7 : Hid (RgAt w24.heap.size w24 vr7 r7) := Nr7.out
  have hB := hBn
  have hcp := hcn
  have hpl := hpn
  have HF : Hid (w24.frozen? ⟨w.heap.size, 0, none⟩ = false ∧ ∀ k, 1 ≤ k → w24.cell? ⟨w.heap.size, k, none⟩ = none) := HFn.out
  clear hBn hcn hpn HFn hb Na NX NY NZ Na6 Na7 Na8 Nr7 hown
  clear Ha7
  clear Ha8
  go_wp2_with fail
  refine (same_any _ _ (RS.andL X r6) (by omega) Ra6 _ Ha6.out (by have := Hr7.out; rwa [RS.alg_and_or RX RY RZ Or6.out Or7.out] at this)).mono ?_
  rintro e w25 ⟨rfl, hb⟩
  have Na : Hid (RgAt w25.heap.size w25 (.slice aoa A.length ca) A) := Ha.out.below hb _ hb.size
  have NX : Hid (RgAt w25.heap.size w25 vX X) := HX.out.below hb _ hb.size
  have NY : Hid (RgAt w25.heap.size w25 vY Y) := HY.out.below hb _ hb.size
  have NZ : Hid (RgAt w25.heap.size w25 vZ Z) := HZ.out.below hb _ hb.size
  have Na6 : Hid (RgAt w25.heap.size w25 va6 (RS.andL X r6)) := Ha6.out.below hb _ hb.size
  have Nr7 : Hid (RgAt w25.heap.size w25 vr7 r7) := Hr7.out.below hb _ hb.size
  have hBn := hB.trans (hb.mono hB.size)
  have hcn := (hb.cell (p := ⟨w.heap.size, 0, none⟩) (by exact hpl)).trans hcp
  have hpn : w.heap.size < w25.heap.size := Nat.lt_of_lt_of_le hpl hb.size
  have HFn : Hid (w25.frozen? ⟨w.heap.size, 0, none⟩ = false ∧ ∀ k, 1 ≤ k → w25.cell? ⟨w.heap.size, k, none⟩ = none) := ⟨(hb.frozen (p := ⟨w.heap.size, 0, none⟩) (by exact hpl)).trans HF.out.1, fun k hk => (hb.cell (p := ⟨w.heap.size, k, none⟩) (by exact hpl)).trans (HF.out.2 k hk)⟩
  clear hB hcp hpl HF Ha HX HY HZ Ha6 Hr7
  have Ha : Hid (RgAt w25.heap.size w25 (.slice aoa A.length ca) A) := Na.out
  have HX : Hid (RgAt w25.heap.size w25 vX X) := NX.out
  have HY : Hid (RgAt w25.heap.size w25 vY Y) := NY.out
  have HZ : Hid (RgAt w25.heap.size w25 vZ Z) := NZ.out
  have Ha6 : Hid (RgAt w25.heap.size w25 va6 (RS.andL X r6)) := Na6.out
  have Hr7 : Hid (RgAt w25.heap.size w25 vr7 r7) := Nr7.out
  have hB := hBn
  have hcp := hcn
  have hpl := hpn
  have HF : Hid (w25.frozen? ⟨w.heap.size, 0, none⟩ = false ∧ ∀ k, 1 ≤ k → w25.cell? ⟨w.heap.size, k, none⟩ = none) := HFn.out
  clear hBn hcn hpn HFn hb Na NX NY NZ Na6 Nr7
  clear Ha6
  clear Hr7
  go_wp2_with fail
  refine (less_any _ _ X Y (by omega) (by omega) RY _ HX.out HY.out).mono ?_
  rintro e w26 ⟨vl8, rfl, hown, hb⟩
  have Na : Hid (RgAt w26.heap.size w26 (.slice aoa A.length ca) A) := Ha.out.below hb _ hb.size
  have NX : Hid (RgAt w26.heap.size w26 vX X) := HX.out.below hb _ hb.size
  have NY : Hid (RgAt w26.heap.size w26 vY Y) := HY.out.below hb _ hb.size
  have NZ : Hid (RgAt w26.heap.size w26 vZ Z) := HZ.out.below hb _ hb.size
  have Nl8 : Hid (RgAt w26.heap.size w26 vl8 (RS.lessL X Y)) := rg_of_own hown
  have Rl8 : RS.right (RS.lessL X Y) = true := RS.lessL_right RX RY
  have hlnl8 : (RS.lessL X Y).length ≤ X.length + (Y.length + 1) := less_length X Y
  have Hl8 := Nl8
  have hBn := hB.trans (hb.mono hB.size)
  have hcn := (hb.cell (p := ⟨w.heap.size, 0, none⟩) (by exact hpl)).trans hcp
  have hpn : w.heap.size < w26.heap.size := Nat.lt_of_lt_of_le hpl hb.size
  have HFn : Hid (w26.frozen? ⟨w.heap.size, 0, none⟩ = false ∧ ∀ k, 1 ≤ k → w26.cell? ⟨w.heap.size, k, none⟩ = none) := ⟨(hb.frozen (p := ⟨w.heap.size, 0, none⟩) (by exact hpl)).trans HF.out.1, fun k hk => (hb.cell (p := ⟨w.heap.size, k, none⟩) (by exact hpl)).trans (HF.out.2 k hk)⟩
  clear hB hcp hpl HF Ha HX HY HZ Hl8
  have Ha : Hid (RgAt w26.heap.size w26 (.slice aoa A.length ca) A) := Na.out
  have HX : Hid (RgAt w26.heap.size w26 vX X) := NX.out
  have HY : Hid (RgAt w26.heap.size w26 vY Y) := NY.out
  have HZ : Hid (RgAt w26.heap.size w26 vZ Z) := NZ.out
  have Hl8 : Hid (RgAt w26.heap.size w26 vl8 (RS.lessL X Y)) := Nl8.out
  have hB := hBn
  have hcp := hcn
  have hpl := hpn
  have HF : Hid (w26.frozen? ⟨w.heap.size, 0, none⟩ = false ∧ ∀ k, 1 ≤ k → w26.cell? ⟨w.heap.size, k, none⟩ = none) := HFn.out
  clear hBn hcn hpn HFn hb Na NX NY NZ Nl8 hown
  go_wp2_with fail
  refine (and_any _ _ X Y (by omega) (by omega) _ HX.out HY.out).mono ?_
  rintro e w27 ⟨va9, rfl, hown, hb⟩
  have Na : Hid (RgAt w27.heap.size w27 (.slice aoa A.length ca) A) := Ha.out.below hb _ hb.size
  have NX : Hid (RgAt w27.heap.size w27 vX X) := HX.out.below hb _ hb.size
  have NY : Hid (RgAt w27.heap.size w27 vY Y) := HY.out.below hb _ hb.size
  have NZ : Hid (RgAt w27.heap.size w27 vZ Z) := HZ.out.below hb _ hb.size
  have Nl8 : Hid (RgAt w27.heap.size w27 vl8 (RS.lessL X Y)) := Hl8.out.below hb _ hb.size
  have Na9 : Hid (RgAt w27.heap.size w27 va9 (RS.andL X Y)) := rg_of_own hown
  have Ra9 : RS.right (RS.andL X Y) = true := RS.andL_right RX RY
  have hlna9 : (RS.andL X Y).length ≤ X.length + Y.length := andL_length _ _ _ (Nat.le_refl _)
  have Ha9 := Na9
  have hBn := hB.trans (hb.mono hB.size)
  have hcn := (hb.cell (p := ⟨w.heap.size, 0, none⟩) (by exact hpl)).trans hcp
  have hpn : w.heap.size < w27.heap.size := Nat.lt_of_lt_of_le hpl hb.size
  have HFn : Hid (w27.frozen? ⟨w.heap.size, 0, none⟩ = false ∧ ∀ k, 1 ≤ k → w27.cell? ⟨w.heap.size, k, none⟩ = none) := ⟨(hb.frozen (p := ⟨w.heap.size, 0, none⟩) (by exact hpl)).trans HF.out.1, fun k hk => (hb.cell (p := ⟨w.heap.size, k, none⟩) (by exact hpl)).trans (HF.out.2 k hk)⟩
  clear hB hcp hpl HF Ha HX HY HZ Hl8 Ha9
  have Ha : Hid (RgAt w27.heap.size w27 (.slice aoa A.length ca) A) := Na.out
  have HX : Hid (RgAt w27.heap.size w27 vX X) := NX.out
  have HY : Hid (RgAt w27.heap.size w27 vY Y) := NY.out
  have HZ : Hid (RgAt w27.heap.size w27 vZ Z) := NZ.out
  have Hl8 : Hid (RgAt w27.heap.size w27 vl8 (RS.lessL X Y)) := Nl8.out
  have Ha9 : Hid (RgAt w27.heap.size w27 va9 (RS.andL X Y)) := Na9.out
  have hB := hBn
  have hcp := hcn
  have hpl := hpn
  have HF : Hid (w27.frozen? ⟨w.heap.size, 0, none⟩ = false ∧ ∀ k, 1 ≤ k → w27.cell? ⟨w.heap.size, k, none⟩ = none) := HFn.out
  clear hBn hcn hpn HFn hb Na NX NY NZ Nl8 Na9 hown
  go_wp2_with fail
  refine (or_any _ _ (RS.lessL X Y) (RS.andL X Y) (by omega) (by omega) _ Hl8.out Ha9.out).mono ?_
  rintro e w28 ⟨vr8, r8, rfl, hofr8, hlnr8, hown, hb⟩
  have Na : Hid (RgAt w28.heap.size w28 (.slice aoa A.length ca) A) := Ha.out.below hb _ hb.size
  have NX : Hid (RgAt w28.heap.size w28 vX X) := HX.out.below hb _ hb.size
  have NY : Hid (RgAt w28.heap.size w28 vY Y) := HY.out.below hb _ hb.size
  have NZ : Hid (RgAt w28.heap.size w28 vZ Z) := HZ.out.below hb _ hb.size
  have Nl8 : Hid (RgAt w28.heap.size w28 vl8 (RS.lessL X Y)) := Hl8.out.below hb _ hb.size
  have Na9 : Hid (RgAt w28.heap.size w28 va9 (RS.andL X Y)) := Ha9.out.below hb _ hb.size
  have Nr8 : Hid (RgAt w28.heap.size w28 vr8 r8) := rg_of_own hown
  have Or8 : Hid (RS.IsOf ((RS.lessL X Y) ++ (RS.andL X Y)) r8) := hofr8
  have Rr8 : RS.right r8 = true := hofr8.1
  clear hofr8
  have Hr8 := Nr8
  have hBn := hB.trans (hb.mono hB.size)
  have hcn := (hb.cell (p := ⟨w.heap.size, 0, none⟩) (by exact hpl)).trans hcp
  have hpn : w.heap.size < w28.heap.size := Nat.lt_of_lt_of_le hpl hb.size
  have HFn : Hid (w28.frozen? ⟨w.heap.size, 0, none⟩ = false ∧ ∀ k, 1 ≤ k → w28.cell? ⟨w.heap.size, k, none⟩ = none) := ⟨(hb.frozen (p := ⟨w.heap.size, 0, none⟩) (by exact hpl)).trans HF.out.1, fun k hk => (hb.cell (p := ⟨w.heap.size, k, none⟩) (by exact hpl)).trans (HF.out.2 k hk)⟩
  clear hB hcp hpl HF Ha HX HY HZ Hl8 Ha9 Hr8
  have Ha : Hid (RgAt w28.heap.size w28 (.slice aoa A.length ca) A) := Na.out
  have HX : Hid (RgAt w28.heap.size w28 vX X) := NX.out
  have HY : Hid (RgAt w28.heap.size w28 vY Y) := NY.out
  have HZ : Hid (RgAt w28.heap.size w28 vZ Z) := NZ.out
  have Hl8 : Hid (RgAt w28.heap.size w28 vl8 (RS.lessL X Y)) := Nl8.out
  have Ha9 : Hid (RgAt w28.heap.size w28 va9 (RS.andL X Y)) := Na9.out
  have Hr8 : Hid (RgAt w28.heap.size w28 vr8 r8) := Nr8.out
  have hB := hBn
  have hcp := hcn
  have hpl := hpn
  have HF : Hid (w28.frozen? ⟨w.heap.size, 0, none⟩ = false ∧ ∀ k, 1 ≤ k → w28.cell? ⟨w.heap.size, k, none⟩ = none) := HFn.out
  clear hBn hcn hpn HFn hb Na NX NY NZ Nl8 Na9 Nr8 hown
  clear Hl8
  clear Ha9
  go_wp2_with fail
  refine (same_any _ _ X (by omega) RX _ (by have := Hr8.out; rwa [RS.alg_parts RX RY Or8.out] at this) HX.out).mono ?_
  rintro e w29 ⟨rfl, hb⟩
  have Na : Hid (RgAt w29.heap.size w29 (.slice aoa A.length ca) A) := Ha.out.below hb _ hb.size
  have NX : Hid (RgAt w29.heap.size w29 vX X) := HX.out.below hb _ hb.size
  have NY : Hid (RgAt w29.heap.size w29 vY Y) := HY.out.below hb _ hb.size
  have NZ : Hid (RgAt w29.heap.size w29 vZ Z) := HZ.out.below hb _ hb.size
  have Nr8 : Hid (RgAt w29.heap.size w29 vr8 r8) := Hr8.out.below hb _ hb.size
  have hBn := hB.trans (hb.mono hB.size)
  have hcn := (hb.cell (p := ⟨w.heap.size, 0, none⟩) (by exact hpl)).trans hcp
  have hpn : w.heap.size < w29.heap.size := Nat.lt_of_lt_of_le hpl hb.size
  have HFn : Hid (w29.frozen? ⟨w.heap.size, 0, none⟩ = false ∧ ∀ k, 1 ≤ k → w29.cell? ⟨w.heap.size, k, none⟩ = none) := ⟨(hb.frozen (p := ⟨w.heap.size, 0, none⟩) (by exact hpl)).trans HF.out.1, fun k hk => (hb.cell (p := ⟨w.heap.size, k, none⟩) (by exact hpl)).trans (HF.out.2 k hk)⟩
  clear hB hcp hpl HF Ha HX HY HZ Hr8
  have Ha : Hid (RgAt w29.heap.size w29 (.slice aoa A.length ca) A) := Na.out
  have HX : Hid (RgAt w29.heap.size w29 vX X) := NX.out
  have HY : Hid (RgAt w29.heap.size w29 vY Y) := NY.out
  have HZ : Hid (RgAt w29.heap.size w29 vZ Z) := NZ.out
  have Hr8 : Hid (RgAt w29.heap.size w29 vr8 r8) := Nr8.out
  have hB := hBn
  have hcp := hcn
  have hpl := hpn
  have HF : Hid (w29.frozen? ⟨w.heap.size, 0, none⟩ = false ∧ ∀ k, 1 ≤ k → w29.cell? ⟨w.heap.size, k, none⟩ = none) := HFn.out
  clear hBn hcn hpn HFn hb Na NX NY NZ Nr8
  clear Hr8
  go_wp2_with fail
  refine (not_any _ X (by omega) _ HX.out RX).mono ?_
  rintro e w30 ⟨vn9, rfl, hown, hb⟩
  have Na : Hid (RgAt w30.heap.size w30 (.slice aoa A.length ca) A) := Ha.out.below hb _ hb.size
  have NX : Hid (RgAt w30.heap.size w30 vX X) := HX.out.below hb _ hb.size
  have NY : Hid (RgAt w30.heap.size w30 vY Y) := HY.out.below hb _ hb.size
  have NZ : Hid (RgAt w30.heap.size w30 vZ Z) := HZ.out.below hb _ hb.size
  have Nn9 : Hid (RgAt w30.heap.size w30 vn9 (RS.notL X)) := rg_of_own hown
  have Rn9 : RS.right (RS.notL X) = true := RS.notL_right RX
  have hlnn9 : (RS.notL X).length ≤ X.length + 1 := notFrom_length X 0
  have Hn9 := Nn9
  have hBn := hB.trans (hb.mono hB.size)
  have hcn := (hb.cell (p := ⟨w.heap.size, 0, none⟩) (by exact hpl)).trans hcp
  have hpn : w.heap.size < w30.heap.size := Nat.lt_of_lt_of_le hpl hb.size
  have HFn : Hid (w30.frozen? ⟨w.heap.size, 0, none⟩ = false ∧ ∀ k, 1 ≤ k → w30.cell? ⟨w.heap.size, k, none⟩ = none) := ⟨(hb.frozen (p := ⟨w.heap.size, 0, none⟩) (by exact hpl)).trans HF.out.1, fun k hk => (hb.cell (p := ⟨w.heap.size, k, none⟩) (by exact hpl)).trans (HF.out.2 k hk)⟩
  clear hB hcp hpl HF Ha HX HY HZ Hn9
  have Ha : Hid (RgAt w30.heap.size w30 (.slice aoa A.length ca) A) := Na.out
  have HX : Hid (RgAt w30.heap.size w30 vX X) := NX.out
  have HY : Hid (RgAt w30.heap.size w30 vY Y) := NY.out
  have HZ : Hid (RgAt w30.heap.size w30 vZ Z) := NZ.out
  have Hn9 : Hid (RgAt w30.heap.size w30 vn9 (RS.notL X)) := Nn9.out
  have hB := hBn
  have hcp := hcn
  have hpl := hpn
  have HF : Hid (w30.frozen? ⟨w.heap.size, 0, none⟩ = false ∧ ∀ k, 1 ≤ k → w30.cell? ⟨w.heap.size, k, none⟩ = none) := HFn.out
  clear hBn hcn hpn HFn hb Na NX NY NZ Nn9 hown
  go_wp2_with fail
  refine (and_any _ _ X (RS.notL X) (by omega) (by omega) _ HX.out Hn9.out).mono ?_
  rintro e w31 ⟨v10, rfl, hown, hb⟩
  rw [RS.alg_none RX] at hown
  obtain ⟨ao10, cap10, hv10, _, _⟩ := rg_of_own hown
  subst hv10
  have Na : Hid (RgAt w31.heap.size w31 (.slice aoa A.length ca) A) := Ha.out.below hb _ hb.size
  have NX : Hid (RgAt w31.heap.size w31 vX X) := HX.out.below hb _ hb.size
  have NY : Hid (RgAt w31.heap.size w31 vY Y) := HY.out.below hb _ hb.size
  have NZ : Hid (RgAt w31.heap.size w31 vZ Z) := HZ.out.below hb _ hb.size
  have Nn9 : Hid (RgAt w31.heap.size w31 vn9 (RS.notL X)) := Hn9.out.below hb _ hb.size
  have hBn := hB.trans (hb.mono hB.size)
  have hcn := (hb.cell (p := ⟨w.heap.size, 0, none⟩) (by exact hpl)).trans hcp
  have hpn : w.heap.size < w31.heap.size := Nat.lt_of_lt_of_le hpl hb.size
  have HFn : Hid (w31.frozen? ⟨w.heap.size, 0, none⟩ = false ∧ ∀ k, 1 ≤ k → w31.cell? ⟨w.heap.size, k, none⟩ = none) := ⟨(hb.frozen (p := ⟨w.heap.size, 0, none⟩) (by exact hpl)).trans HF.out.1, fun k hk => (hb.cell (p := ⟨w.heap.size, k, none⟩) (by exact hpl)).trans (HF.out.2 k hk)⟩
  clear hB hcp hpl HF Ha HX HY HZ Hn9
  have Ha : Hid (RgAt w31.heap.size w31 (.slice aoa A.length ca) A) := Na.out
  have HX : Hid (RgAt w31.heap.size w31 vX X) := NX.out
  have HY : Hid (RgAt w31.heap.size w31 vY Y) := NY.out
  have HZ : Hid (RgAt w31.heap.size w31 vZ Z) := NZ.out
  have Hn9 : Hid (RgAt w31.heap.size w31 vn9 (RS.notL X)) := Nn9.out
  have hB := hBn
  have hcp := hcn
  have hpl := hpn
  have HF : Hid (w31.frozen? ⟨w.heap.size, 0, none⟩ = false ∧ ∀ k, 1 ≤ k → w31.cell? ⟨w.heap.size, k, none⟩ = none) := HFn.out
  clear hBn hcn hpn HFn hb Na NX NY NZ Nn9 hown
  clear Hn9
  go_wp2_with fail
  refine (pick_any p _).mono ?_
  rintro e wp ⟨q, rfl, hq0, hq1, rfl⟩

  obtain ⟨W8, hW8⟩ : ∃ W8, W8 = wp.setCell ⟨w.heap.size, 0, none⟩ (.int .i64 q) := ⟨_, rfl⟩
  have HW8 : Hid (W8 = wp.setCell ⟨w.heap.size, 0, none⟩ (.int .i64 q)) := hW8
  have hB8 : Below w.heap.size w W8 := by rw [hW8]; exact hB.setCell (p := ⟨w.heap.size, 0, none⟩) (Nat.le_refl _) _
  have hp8 : w.heap.size < W8.heap.size := by rw [hW8]; simpa using hpl
  have hc8 : W8.cell? ⟨w.heap.size, 0, none⟩ = some (.int .i64 q) := by rw [hW8]; exact World.cell?_setCell_same _ _ _ hcp
  have Ha8 : Hid (RgAt W8.heap.size W8 (.slice aoa A.length ca) A) := by rw [hW8]; exact rg_set Ha.out HF.out.2
  have HX8 : Hid (RgAt W8.heap.size W8 vX X) := by rw [hW8]; exact rg_set HX.out HF.out.2
  have HY8 : Hid (RgAt W8.heap.size W8 vY Y) := by rw [hW8]; exact rg_set HY.out HF.out.2
  have hfp := HF.out.1
  clear hW8 HF Ha HX HY HZ hB
  clear hlnr1 Or1 Rr1 Rn1 hlnn1 Rnx hlnnx Rny hlnny Ra1 hlna1 Rl2 hlnl2 Rn2 hlnn2 Ra2 hlna2 Rn3 hlnn3 Rn4 hlnn4 hlnr4 Or4 Rr4 hlnr5 Or5 Rr5 hlnr6 Or6 Rr6 Ra6 hlna6 Ra7 hlna7 Ra8 hlna8 hlnr7 Or7 Rr7 Rl8 hlnl8 Ra9 hlna9 hlnr8 Or8 Rr8 Rn9 hlnn9
  go_wp2_with fail
  rw [← HW8.out]
  clear hfp hcp hpl HW8
  go_region_held3 (fun w' => w'.cell? ⟨w.heap.size, 0, none⟩ = some (.int .i64 q) ∧ Rest w.heap.size vX X vY Y w') (first | exact ⟨hc8, hp8, HX8.out, HY8.out⟩ | exact rest_keep (by assumption) (by assumption))
    (first
      | (go_at_call_of 30 vX; refine (has_any vX X q (by omega) RX _ (rest_x (g := w.heap.size) (q := q) (vY := vY) (Y := Y) ?_)).mono ?_; assumption; rintro e w9 ⟨rfl, hb9⟩)
      | (go_at_call_of 30 vY; refine (has_any vY Y q (by omega) RY _ (rest_y (g := w.heap.size) (q := q) (vX := vX) (X := X) ?_)).mono ?_; assumption; rintro e w10 ⟨rfl, hb10⟩))
  have hb11 := (below_drew hb9).trans (hb10.mono (below_drew hb9).size)
  have hS10 := rest_keep (g := w.heap.size) (q := q) (vX := vX) (vY := vY) (X := X) (Y := Y) hb11 ⟨hc8, hp8, HX8.out, HY8.out⟩
  have Ha10 : Hid (RgAt w10.heap.size w10 (.slice aoa A.length ca) A) := Ha8.out.below hb11 _ hb11.size
  have hB10 := hB8.trans (hb11.mono hB8.size)
  clear hb9 hb10 hb11 Ha8 HX8 HY8 hB8 hc8 hp8
  have HS10 : Hid (w10.cell? ⟨w.heap.size, 0, none⟩ = some (.int .i64 q) ∧ Rest w.heap.size vX X vY Y w10) := hS10
  clear hS10
  go_wp2_with fail
  refine (contains_any _ A w.heap.size q (by omega) _ HS10.out.2.1 HS10.out.1 Ha10.out).mono ?_
  rintro e w11 ⟨rfl, hb11⟩
  rw [RS.has_of OX.out hq0 hq1]
  have hS11 := rest_keep hb11 HS10.out
  have hc11 := hS11.1
  have HR11 : Hid (Rest w.heap.size vX X vY Y w11) := hS11.2
  have hB11 := hB10.trans (hb11.mono hB10.size)
  clear hb11 Ha10 hB10 HS10 hS11
  obtain ⟨bx, hbx⟩ : ∃ bx, bx = RS.has X q := ⟨_, rfl⟩
  obtain ⟨bY, hby⟩ : ∃ bY, bY = RS.has Y q := ⟨_, rfl⟩
  rw [← hbx]
  have HBX : Hid (bx = RS.has X q) := hbx
  have HBY : Hid (bY = RS.has Y q) := hby
  have hro : ∀ r, RS.IsOf (X ++ Y) r → RS.has r q = (bx || bY) := fun r hr => by rw [RS.has_or RX RY hr, HBX.out, HBY.out]
  have hra : RS.has (RS.andL X Y) q = (bx && bY) := by rw [RS.has_and RX RY, HBX.out, HBY.out]
  have hrl : RS.has (RS.lessL X Y) q = (bx && !bY) := by rw [RS.has_less RX RY, HBX.out, HBY.out]
  have hrn : RS.has (RS.notL X) q = !bx := by rw [RS.has_not RX hq0 hq1, HBX.out]
  have HRO : Hid (∀ r, RS.IsOf (X ++ Y) r → RS.has r q = (bx || bY)) := hro
  have HRA : Hid (RS.has (RS.andL X Y) q = (bx && bY)) := hra
  have HRL : Hid (RS.has (RS.lessL X Y) q = (bx && !bY)) := hrl
  have HRN : Hid (RS.has (RS.notL X) q = !bx) := hrn
  rw [← hby]
  have hla := andL_length _ X Y (Nat.le_refl _)
  have hll := less_length X Y
  have hln := notFrom_length X 0
  have hln' : (RS.notL X).length ≤ X.length + 1 := hln
  clear hbx hby HBX HBY hro hra hrl hrn hln
  go_wp2_with fail
  cases bx
  · have hro : ∀ r, RS.IsOf (X ++ Y) r → RS.has r q = (bY) := fun r hr => by rw [HRO.out r hr]; simp
    have hra : RS.has (RS.andL X Y) q = (false) := by rw [HRA.out]; simp
    have hrl : RS.has (RS.lessL X Y) q = (false) := by rw [HRL.out]; simp
    have hrn : RS.has (RS.notL X) q = (true) := by rw [HRN.out]; rfl
    clear HRO HRA HRL HRN
    refine wp_region_held_drew (S := (fun w' => w'.cell? ⟨w.heap.size, 0, none⟩ = some (.int .i64 q) ∧ Rest w.heap.size vX X vY Y w')) (by kernel_rfl) ⟨hc11, HR11.out⟩ (fun hHeld => ?_)
    refine wpAnyH_take (i := 0) (oi := { dst := some 128, op := Op.move (Operand.tmp 13), type := 4, pos := "keep.go:113", after := #[], guard := none }) (v := ?vv1) rfl (by kernel_rfl) (by kernel_rfl) (by kernel_rfl) (fun _ _ _ h => h) (Or.inl ⟨by rfl, ?hy1⟩) (by assumption) ?rest1
    case hy1 => (intro w hSw; (try dsimp only at hSw); go_simp) <;> try with_reducible rfl
    try simp only [Act.put, List.setIfInBounds_toArray, List.set_cons_zero, List.set_cons_succ]
    refine wpAnyH_take (i := 1) (oi := { dst := some 129, op := Op.move (Operand.tmp 15), type := 4, pos := "keep.go:113", after := #[], guard := none }) (v := ?vv2) rfl (by kernel_rfl) (by kernel_rfl) (by kernel_rfl) (fun _ _ _ h => h) (Or.inl ⟨by rfl, ?hy2⟩) (by assumption) ?rest2
    case hy2 => (intro w hSw; (try dsimp only at hSw); go_simp) <;> try with_reducible rfl
    try simp only [Act.put, List.setIfInBounds_toArray, List.set_cons_zero, List.set_cons_succ]
    refine wpAnyH_take (i := 2) (oi := { dst := some 130, op := Op.binOp BinOp.eql 4 (Operand.tmp 128) (Operand.tmp 129) 4, type := 4, pos := "keep.go:113", after := #[{ on := 0, ground := Ground.data }, { on := 1, ground := Ground.data }], guard := none }) (v := ?vv3) rfl (by kernel_rfl) (by kernel_rfl) (by kernel_rfl) (fun _ _ _ h => h) (Or.inl ⟨by rfl, ?hy3⟩) (by assumption) ?rest3
    case hy3 => (intro w hSw; (try dsimp only at hSw); go_simp) <;> try with_reducible rfl
    try simp only [Act.put, List.setIfInBounds_toArray, List.set_cons_zero, List.set_cons_succ]
    refine wpAnyH_take (i := 3) (oi := { dst := some 131, op := Op.move (Operand.tmp 130), type := 4, pos := "keep.go:113", after := #[{ on := 2, ground := Ground.data }], guard := none }) (v := ?vv4) rfl (by kernel_rfl) (by kernel_rfl) (by kernel_rfl) (fun _ _ _ h => h) (Or.inl ⟨by rfl, ?hy4⟩) (by assumption) ?rest4
    case hy4 => (intro w hSw; (try dsimp only at hSw); go_simp) <;> try with_reducible rfl
    try simp only [Act.put, List.setIfInBounds_toArray, List.set_cons_zero, List.set_cons_succ]
    refine wpAnyH_take (i := 4) (oi := { dst := some 132, op := Op.move (Operand.tmp 9), type := 48, pos := "keep.go:113", after := #[{ on := 3, ground := Ground.guard }], guard := some (3, true) }) (v := ?vv5) rfl (by kernel_rfl) (by kernel_rfl) (by kernel_rfl) (fun _ _ _ h => h) (Or.inl ⟨by rfl, ?hy5⟩) (by assumption) ?rest5
    case hy5 => (intro w hSw; (try dsimp only at hSw); go_simp) <;> try with_reducible rfl
    try simp only [Act.put, List.setIfInBounds_toArray, List.set_cons_zero, List.set_cons_succ]
    refine wpAnyH_take (i := 5) (oi := { dst := some 133, op := Op.move (Operand.tmp 10), type := 48, pos := "keep.go:113", after := #[{ on := 3, ground := Ground.guard }], guard := some (3, true) }) (v := ?vv6) rfl (by kernel_rfl) (by kernel_rfl) (by kernel_rfl) (fun _ _ _ h => h) (Or.inl ⟨by rfl, ?hy6⟩) (by assumption) ?rest6
    case hy6 => (intro w hSw; (try dsimp only at hSw); go_simp) <;> try with_reducible rfl
    try simp only [Act.put, List.setIfInBounds_toArray, List.set_cons_zero, List.set_cons_succ]
    refine wpAnyH_take (i := 7) (oi := { dst := some 135, op := Op.load 3 (Operand.tmp 7), type := 3, pos := "keep.go:113", after := #[{ on := 3, ground := Ground.guard }], guard := some (3, true) }) (v := ?vv7) rfl (by kernel_rfl) (by kernel_rfl) (by kernel_rfl) (fun _ _ _ h => h) (Or.inl ⟨by rfl, ?hy7⟩) (by assumption) ?rest7
    case hy7 => (intro w hSw; (try dsimp only at hSw); go_simp) <;> try with_reducible rfl
    try simp only [Act.put, List.setIfInBounds_toArray, List.set_cons_zero, List.set_cons_succ]
    refine wpAnyH_take (i := 9) (oi := { dst := some 137, op := Op.move (Operand.tmp 13), type := 4, pos := "keep.go:113", after := #[{ on := 3, ground := Ground.guard }], guard := some (3, true) }) (v := ?vv8) rfl (by kernel_rfl) (by kernel_rfl) (by kernel_rfl) (fun _ _ _ h => h) (Or.inl ⟨by rfl, ?hy8⟩) (by assumption) ?rest8
    case hy8 => (intro w hSw; (try dsimp only at hSw); go_simp) <;> try with_reducible rfl
    try simp only [Act.put, List.setIfInBounds_toArray, List.set_cons_zero, List.set_cons_succ]
    refine wpAnyH_ready (rs := [6]) (by kernel_rfl) (by simp) ?_
    refine AllReadyH.cons (o := { dst := some 134, op := Op.call { callee := Callee.value (Operand.func 26), args := #[Operand.tmp 132, Operand.tmp 133], argTypes := #[48, 48] }, type := 48, pos := "keep.go:113", after := #[{ on := 4, ground := Ground.data }, { on := 5, ground := Ground.data }, { on := 3, ground := Ground.chain }, { on := 3, ground := Ground.guard }], guard := some (3, true) }) rfl (fun K hK => ?_) AllReadyH.nil
    go_simp
    refine (or_any vX vY X Y (by omega) (by omega) _ (rest_x (g := w.heap.size) (q := q) (vY := vY) (Y := Y) (by assumption)) (rest_y (g := w.heap.size) (q := q) (vX := vX) (X := X) (by assumption))).mono ?_
    rintro e w12 ⟨v12, r12, rfl, hof12, hl12, hown12, hb12⟩
    go_wp2_with fail
    refine hK.out _ _ ?_ (fun hHeld => ?_)
    · exact rest_keep (by assumption) (by assumption)
    clear hK K
    try simp only [Act.put, List.setIfInBounds_toArray, List.set_cons_zero, List.set_cons_succ]
    refine wpAnyH_ready (rs := [8]) (by kernel_rfl) (by simp) ?_
    refine AllReadyH.cons (o := { dst := some 136, op := Op.call { callee := Callee.value (Operand.func 30), args := #[Operand.tmp 134, Operand.tmp 135], argTypes := #[48, 3] }, type := 4, pos := "keep.go:113", after := #[{ on := 6, ground := Ground.data }, { on := 7, ground := Ground.data }, { on := 6, ground := Ground.chain }, { on := 3, ground := Ground.guard }], guard := some (3, true) }) rfl (fun K hK => ?_) AllReadyH.nil
    go_simp
    refine (has_any v12 r12 q (by omega) hof12.1 _ (rg_of_own hown12)).mono ?_
    rintro e w13 ⟨rfl, hb13⟩
    rw [hro _ hof12]
    go_wp2_with fail
    refine hK.out _ _ ?_ (fun hHeld => ?_)
    · exact rest_keep (by assumption) (by assumption)
    clear hK K
    try simp only [Act.put, List.setIfInBounds_toArray, List.set_cons_zero, List.set_cons_succ]
    refine wpAnyH_take (i := 10) (oi := { dst := some 138, op := Op.move (Operand.tmp 137), type := 4, pos := "keep.go:113", after := #[{ on := 9, ground := Ground.data }, { on := 8, ground := Ground.chain }, { on := 3, ground := Ground.guard }], guard := some (3, true) }) (v := ?vv9) rfl (by kernel_rfl) (by kernel_rfl) (by kernel_rfl) (fun _ _ _ h => h) (Or.inl ⟨by rfl, ?hy9⟩) (by assumption) ?rest9
    case hy9 => (intro w hSw; (try dsimp only at hSw); go_simp) <;> try with_reducible rfl
    try simp only [Act.put, List.setIfInBounds_toArray, List.set_cons_zero, List.set_cons_succ]
    refine wpAnyH_take (i := 11) (oi := { dst := some 139, op := Op.move (Operand.tmp 14), type := 4, pos := "keep.go:113", after := #[{ on := 10, ground := Ground.guard }], guard := some (10, false) }) (v := ?vv10) rfl (by kernel_rfl) (by kernel_rfl) (by kernel_rfl) (fun _ _ _ h => h) (Or.inl ⟨by rfl, ?hy10⟩) (by assumption) ?rest10
    case hy10 => (intro w hSw; (try dsimp only at hSw); go_simp) <;> try with_reducible rfl
    try simp only [Act.put, List.setIfInBounds_toArray, List.set_cons_zero, List.set_cons_succ]
    refine wpAnyH_take (i := 12) (oi := { dst := some 140, op := Op.pick (Operand.tmp 138) (Operand.const (Value.bool true)) (Operand.tmp 139), type := 4, pos := "keep.go:113", after := #[{ on := 10, ground := Ground.data }, { on := 11, ground := Ground.data }, { on := 3, ground := Ground.guard }], guard := some (3, true) }) (v := ?vv11) rfl (by kernel_rfl) (by kernel_rfl) (by kernel_rfl) (fun _ _ _ h => h) (Or.inl ⟨by rfl, ?hy11⟩) (by assumption) ?rest11
    case hy11 => (intro w hSw; (try dsimp only at hSw); go_simp) <;> try with_reducible rfl
    try simp only [Act.put, List.setIfInBounds_toArray, List.set_cons_zero, List.set_cons_succ]
    refine wpAnyH_take (i := 13) (oi := { dst := some 141, op := Op.binOp BinOp.eql 4 (Operand.tmp 136) (Operand.tmp 140) 4, type := 4, pos := "keep.go:113", after := #[{ on := 8, ground := Ground.data }, { on := 12, ground := Ground.data }, { on := 3, ground := Ground.guard }], guard := some (3, true) }) (v := ?vv12) rfl (by kernel_rfl) (by kernel_rfl) (by kernel_rfl) (fun _ _ _ h => h) (Or.inl ⟨by rfl, ?hy12⟩) (by assumption) ?rest12
    case hy12 => (intro w hSw; (try dsimp only at hSw); go_simp) <;> try with_reducible rfl
    try simp only [Act.put, List.setIfInBounds_toArray, List.set_cons_zero, List.set_cons_succ]
    refine wpAnyH_take (i := 14) (oi := { dst := some 142, op := Op.pick (Operand.tmp 131) (Operand.tmp 141) (Operand.const (Value.bool false)), type := 4, pos := "keep.go:113", after := #[{ on := 3, ground := Ground.data }, { on := 13, ground := Ground.data }], guard := none }) (v := ?vv13) rfl (by kernel_rfl) (by kernel_rfl) (by kernel_rfl) (fun _ _ _ h => h) (Or.inl ⟨by rfl, ?hy13⟩) (by assumption) ?rest13
    case hy13 => (intro w hSw; (try dsimp only at hSw); go_simp) <;> try with_reducible rfl
    try simp only [Act.put, List.setIfInBounds_toArray, List.set_cons_zero, List.set_cons_succ]
    refine wpAnyH_take (i := 15) (oi := { dst := some 143, op := Op.move (Operand.tmp 142), type := 4, pos := "keep.go:113", after := #[{ on := 14, ground := Ground.data }, { on := 10, ground := Ground.chain }], guard := none }) (v := ?vv14) rfl (by kernel_rfl) (by kernel_rfl) (by kernel_rfl) (fun _ _ _ h => h) (Or.inl ⟨by rfl, ?hy14⟩) (by assumption) ?rest14
    case hy14 => (intro w hSw; (try dsimp only at hSw); go_simp) <;> try with_reducible rfl
    try simp only [Act.put, List.setIfInBounds_toArray, List.set_cons_zero, List.set_cons_succ]
    refine wpAnyH_take (i := 16) (oi := { dst := some 144, op := Op.move (Operand.tmp 9), type := 48, pos := "keep.go:113", after := #[{ on := 15, ground := Ground.guard }], guard := some (15, true) }) (v := ?vv15) rfl (by kernel_rfl) (by kernel_rfl) (by kernel_rfl) (fun _ _ _ h => h) (Or.inl ⟨by rfl, ?hy15⟩) (by assumption) ?rest15
    case hy15 => (intro w hSw; (try dsimp only at hSw); go_simp) <;> try with_reducible rfl
    try simp only [Act.put, List.setIfInBounds_toArray, List.set_cons_zero, List.set_cons_succ]
    refine wpAnyH_take (i := 17) (oi := { dst := some 145, op := Op.move (Operand.tmp 10), type := 48, pos := "keep.go:113", after := #[{ on := 15, ground := Ground.guard }], guard := some (15, true) }) (v := ?vv16) rfl (by kernel_rfl) (by kernel_rfl) (by kernel_rfl) (fun _ _ _ h => h) (Or.inl ⟨by rfl, ?hy16⟩) (by assumption) ?rest16
    case hy16 => (intro w hSw; (try dsimp only at hSw); go_simp) <;> try with_reducible rfl
    try simp only [Act.put, List.setIfInBounds_toArray, List.set_cons_zero, List.set_cons_succ]
    refine wpAnyH_take (i := 19) (oi := { dst := some 147, op := Op.load 3 (Operand.tmp 7), type := 3, pos := "keep.go:113", after := #[{ on := 15, ground := Ground.guard }], guard := some (15, true) }) (v := ?vv17) rfl (by kernel_rfl) (by kernel_rfl) (by kernel_rfl) (fun _ _ _ h => h) (Or.inl ⟨by rfl, ?hy17⟩) (by assumption) ?rest17
    case hy17 => (intro w hSw; (try dsimp only at hSw); go_simp) <;> try with_reducible rfl
    try simp only [Act.put, List.setIfInBounds_toArray, List.set_cons_zero, List.set_cons_succ]
    refine wpAnyH_take (i := 21) (oi := { dst := some 149, op := Op.move (Operand.tmp 13), type := 4, pos := "keep.go:113", after := #[{ on := 15, ground := Ground.guard }], guard := some (15, true) }) (v := ?vv18) rfl (by kernel_rfl) (by kernel_rfl) (by kernel_rfl) (fun _ _ _ h => h) (Or.inl ⟨by rfl, ?hy18⟩) (by assumption) ?rest18
    case hy18 => (intro w hSw; (try dsimp only at hSw); go_simp) <;> try with_reducible rfl
    try simp only [Act.put, List.setIfInBounds_toArray, List.set_cons_zero, List.set_cons_succ]
    refine wpAnyH_ready (rs := [18]) (by kernel_rfl) (by simp) ?_
    refine AllReadyH.cons (o := { dst := some 146, op := Op.call { callee := Callee.value (Operand.func 27), args := #[Operand.tmp 144, Operand.tmp 145], argTypes := #[48, 48] }, type := 48, pos := "keep.go:113", after := #[{ on := 16, ground := Ground.data }, { on := 17, ground := Ground.data }, { on := 15, ground := Ground.chain }, { on := 15, ground := Ground.guard }], guard := some (15, true) }) rfl (fun K hK => ?_) AllReadyH.nil
    go_simp
    refine (and_any vX vY X Y (by omega) (by omega) _ (rest_x (g := w.heap.size) (q := q) (vY := vY) (Y := Y) (by assumption)) (rest_y (g := w.heap.size) (q := q) (vX := vX) (X := X) (by assumption))).mono ?_
    rintro e w14 ⟨v14, rfl, hown14, hb14⟩
    go_wp2_with fail
    refine hK.out _ _ ?_ (fun hHeld => ?_)
    · exact rest_keep (by assumption) (by assumption)
    clear hK K
    try simp only [Act.put, List.setIfInBounds_toArray, List.set_cons_zero, List.set_cons_succ]
    refine wpAnyH_ready (rs := [20]) (by kernel_rfl) (by simp) ?_
    refine AllReadyH.cons (o := { dst := some 148, op := Op.call { callee := Callee.value (Operand.func 30), args := #[Operand.tmp 146, Operand.tmp 147], argTypes := #[48, 3] }, type := 4, pos := "keep.go:113", after := #[{ on := 18, ground := Ground.data }, { on := 19, ground := Ground.data }, { on := 18, ground := Ground.chain }, { on := 15, ground := Ground.guard }], guard := some (15, true) }) rfl (fun K hK => ?_) AllReadyH.nil
    go_simp
    refine (has_any v14 (RS.andL X Y) q (by omega) (RS.andL_right RX RY) _ (rg_of_own hown14)).mono ?_
    rintro e w15 ⟨rfl, hb15⟩
    rw [hra]
    go_wp2_with fail
    refine hK.out _ _ ?_ (fun hHeld => ?_)
    · exact rest_keep (by assumption) (by assumption)
    clear hK K
    try simp only [Act.put, List.setIfInBounds_toArray, List.set_cons_zero, List.set_cons_succ]
    refine wpAnyH_take (i := 22) (oi := { dst := some 150, op := Op.move (Operand.tmp 149), type := 4, pos := "keep.go:113", after := #[{ on := 21, ground := Ground.data }, { on := 20, ground := Ground.chain }, { on := 15, ground := Ground.guard }], guard := some (15, true) }) (v := ?vv19) rfl (by kernel_rfl) (by kernel_rfl) (by kernel_rfl) (fun _ _ _ h => h) (Or.inl ⟨by rfl, ?hy19⟩) (by assumption) ?rest19
    case hy19 => (intro w hSw; (try dsimp only at hSw); go_simp) <;> try with_reducible rfl
    try simp only [Act.put, List.setIfInBounds_toArray, List.set_cons_zero, List.set_cons_succ]
    refine wpAnyH_take (i := 23) (oi := { dst := some 151, op := Op.move (Operand.tmp 14), type := 4, pos := "keep.go:113", after := #[{ on := 22, ground := Ground.guard }], guard := some (22, true) }) (v := undef) rfl (by kernel_rfl) (by kernel_rfl) (by kernel_rfl) (fun _ _ _ h => h) (Or.inr ⟨by rfl, rfl⟩) (by assumption) ?_
    try simp only [Act.put, List.setIfInBounds_toArray, List.set_cons_zero, List.set_cons_succ]
    refine wpAnyH_take (i := 24) (oi := { dst := some 152, op := Op.pick (Operand.tmp 150) (Operand.tmp 151) (Operand.const (Value.bool false)), type := 4, pos := "keep.go:113", after := #[{ on := 22, ground := Ground.data }, { on := 23, ground := Ground.data }, { on := 15, ground := Ground.guard }], guard := some (15, true) }) (v := ?vv20) rfl (by kernel_rfl) (by kernel_rfl) (by kernel_rfl) (fun _ _ _ h => h) (Or.inl ⟨by rfl, ?hy20⟩) (by assumption) ?rest20
    case hy20 => (intro w hSw; (try dsimp only at hSw); go_simp) <;> try with_reducible rfl
    try simp only [Act.put, List.setIfInBounds_toArray, List.set_cons_zero, List.set_cons_succ]
    refine wpAnyH_take (i := 25) (oi := { dst := some 153, op := Op.binOp BinOp.eql 4 (Operand.tmp 148) (Operand.tmp 152) 4, type := 4, pos := "keep.go:113", after := #[{ on := 20, ground := Ground.data }, { on := 24, ground := Ground.data }, { on := 15, ground := Ground.guard }], guard := some (15, true) }) (v := ?vv21) rfl (by kernel_rfl) (by kernel_rfl) (by kernel_rfl) (fun _ _ _ h => h) (Or.inl ⟨by rfl, ?hy21⟩) (by assumption) ?rest21
    case hy21 => (intro w hSw; (try dsimp only at hSw); go_simp) <;> try with_reducible rfl
    try simp only [Act.put, List.setIfInBounds_toArray, List.set_cons_zero, List.set_cons_succ]
    refine wpAnyH_take (i := 26) (oi := { dst := some 154, op := Op.pick (Operand.tmp 143) (Operand.tmp 153) (Operand.const (Value.bool false)), type := 4, pos := "keep.go:113", after := #[{ on := 15, ground := Ground.data }, { on := 25, ground := Ground.data }], guard := none }) (v := ?vv22) rfl (by kernel_rfl) (by kernel_rfl) (by kernel_rfl) (fun _ _ _ h => h) (Or.inl ⟨by rfl, ?hy22⟩) (by assumption) ?rest22
    case hy22 => (intro w hSw; (try dsimp only at hSw); go_simp) <;> try with_reducible rfl
    try simp only [Act.put, List.setIfInBounds_toArray, List.set_cons_zero, List.set_cons_succ]
    refine wpAnyH_take (i := 27) (oi := { dst := some 155, op := Op.move (Operand.tmp 154), type := 4, pos := "keep.go:113", after := #[{ on := 26, ground := Ground.data }, { on := 22, ground := Ground.chain }], guard := none }) (v := ?vv23) rfl (by kernel_rfl) (by kernel_rfl) (by kernel_rfl) (fun _ _ _ h => h) (Or.inl ⟨by rfl, ?hy23⟩) (by assumption) ?rest23
    case hy23 => (intro w hSw; (try dsimp only at hSw); go_simp) <;> try with_reducible rfl
    try simp only [Act.put, List.setIfInBounds_toArray, List.set_cons_zero, List.set_cons_succ]
    refine wpAnyH_take (i := 28) (oi := { dst := some 156, op := Op.move (Operand.tmp 9), type := 48, pos := "keep.go:113", after := #[{ on := 27, ground := Ground.guard }], guard := some (27, true) }) (v := ?vv24) rfl (by kernel_rfl) (by kernel_rfl) (by kernel_rfl) (fun _ _ _ h => h) (Or.inl ⟨by rfl, ?hy24⟩) (by assumption) ?rest24
    case hy24 => (intro w hSw; (try dsimp only at hSw); go_simp) <;> try with_reducible rfl
    try simp only [Act.put, List.setIfInBounds_toArray, List.set_cons_zero, List.set_cons_succ]
    refine wpAnyH_take (i := 29) (oi := { dst := some 157, op := Op.move (Operand.tmp 10), type := 48, pos := "keep.go:113", after := #[{ on := 27, ground := Ground.guard }], guard := some (27, true) }) (v := ?vv25) rfl (by kernel_rfl) (by kernel_rfl) (by kernel_rfl) (fun _ _ _ h => h) (Or.inl ⟨by rfl, ?hy25⟩) (by assumption) ?rest25
    case hy25 => (intro w hSw; (try dsimp only at hSw); go_simp) <;> try with_reducible rfl
    try simp only [Act.put, List.setIfInBounds_toArray, List.set_cons_zero, List.set_cons_succ]
    refine wpAnyH_take (i := 31) (oi := { dst := some 159, op := Op.load 3 (Operand.tmp 7), type := 3, pos := "keep.go:113", after := #[{ on := 27, ground := Ground.guard }], guard := some (27, true) }) (v := ?vv26) rfl (by kernel_rfl) (by kernel_rfl) (by kernel_rfl) (fun _ _ _ h => h) (Or.inl ⟨by rfl, ?hy26⟩) (by assumption) ?rest26
    case hy26 => (intro w hSw; (try dsimp only at hSw); go_simp) <;> try with_reducible rfl
    try simp only [Act.put, List.setIfInBounds_toArray, List.set_cons_zero, List.set_cons_succ]
    refine wpAnyH_take (i := 33) (oi := { dst := some 161, op := Op.move (Operand.tmp 13), type := 4, pos := "keep.go:113", after := #[{ on := 27, ground := Ground.guard }], guard := some (27, true) }) (v := ?vv27) rfl (by kernel_rfl) (by kernel_rfl) (by kernel_rfl) (fun _ _ _ h => h) (Or.inl ⟨by rfl, ?hy27⟩) (by assumption) ?rest27
    case hy27 => (intro w hSw; (try dsimp only at hSw); go_simp) <;> try with_reducible rfl
    try simp only [Act.put, List.setIfInBounds_toArray, List.set_cons_zero, List.set_cons_succ]
    refine wpAnyH_ready (rs := [30]) (by kernel_rfl) (by simp) ?_
    refine AllReadyH.cons (o := { dst := some 158, op := Op.call { callee := Callee.value (Operand.func 28), args := #[Operand.tmp 156, Operand.tmp 157], argTypes := #[48, 48] }, type := 48, pos := "keep.go:113", after := #[{ on := 28, ground := Ground.data }, { on := 29, ground := Ground.data }, { on := 27, ground := Ground.chain }, { on := 27, ground := Ground.guard }], guard := some (27, true) }) rfl (fun K hK => ?_) AllReadyH.nil
    go_simp
    refine (less_any vX vY X Y (by omega) (by omega) RY _ (rest_x (g := w.heap.size) (q := q) (vY := vY) (Y := Y) (by assumption)) (rest_y (g := w.heap.size) (q := q) (vX := vX) (X := X) (by assumption))).mono ?_
    rintro e w16 ⟨v16, rfl, hown16, hb16⟩
    go_wp2_with fail
    refine hK.out _ _ ?_ (fun hHeld => ?_)
    · exact rest_keep (by assumption) (by assumption)
    clear hK K
    try simp only [Act.put, List.setIfInBounds_toArray, List.set_cons_zero, List.set_cons_succ]
    refine wpAnyH_ready (rs := [32]) (by kernel_rfl) (by simp) ?_
    refine AllReadyH.cons (o := { dst := some 160, op := Op.call { callee := Callee.value (Operand.func 30), args := #[Operand.tmp 158, Operand.tmp 159], argTypes := #[48, 3] }, type := 4, pos := "keep.go:113", after := #[{ on := 30, ground := Ground.data }, { on := 31, ground := Ground.data }, { on := 30, ground := Ground.chain }, { on := 27, ground := Ground.guard }], guard := some (27, true) }) rfl (fun K hK => ?_) AllReadyH.nil
    go_simp
    refine (has_any v16 (RS.lessL X Y) q (by omega) (RS.lessL_right RX RY) _ (rg_of_own hown16)).mono ?_
    rintro e w17 ⟨rfl, hb17⟩
    rw [hrl]
    go_wp2_with fail
    refine hK.out _ _ ?_ (fun hHeld => ?_)
    · exact rest_keep (by assumption) (by assumption)
    clear hK K
    try simp only [Act.put, List.setIfInBounds_toArray, List.set_cons_zero, List.set_cons_succ]
    refine wpAnyH_take (i := 34) (oi := { dst := some 162, op := Op.move (Operand.tmp 161), type := 4, pos := "keep.go:113", after := #[{ on := 33, ground := Ground.data }, { on := 32, ground := Ground.chain }, { on := 27, ground := Ground.guard }], guard := some (27, true) }) (v := ?vv28) rfl (by kernel_rfl) (by kernel_rfl) (by kernel_rfl) (fun _ _ _ h => h) (Or.inl ⟨by rfl, ?hy28⟩) (by assumption) ?rest28
    case hy28 => (intro w hSw; (try dsimp only at hSw); go_simp) <;> try with_reducible rfl
    try simp only [Act.put, List.setIfInBounds_toArray, List.set_cons_zero, List.set_cons_succ]
    refine wpAnyH_take (i := 35) (oi := { dst := some 163, op := Op.move (Operand.tmp 14), type := 4, pos := "keep.go:113", after := #[{ on := 34, ground := Ground.guard }], guard := some (34, true) }) (v := undef) rfl (by kernel_rfl) (by kernel_rfl) (by kernel_rfl) (fun _ _ _ h => h) (Or.inr ⟨by rfl, rfl⟩) (by assumption) ?_
    try simp only [Act.put, List.setIfInBounds_toArray, List.set_cons_zero, List.set_cons_succ]
    refine wpAnyH_take (i := 36) (oi := { dst := some 164, op := Op.unOp UnOp.not 4 (Operand.tmp 163), type := 4, pos := "keep.go:113", after := #[{ on := 35, ground := Ground.data }, { on := 34, ground := Ground.guard }], guard := some (34, true) }) (v := undef) rfl (by kernel_rfl) (by kernel_rfl) (by kernel_rfl) (fun _ _ _ h => h) (Or.inr ⟨by rfl, rfl⟩) (by assumption) ?_
    try simp only [Act.put, List.setIfInBounds_toArray, List.set_cons_zero, List.set_cons_succ]
    refine wpAnyH_take (i := 37) (oi := { dst := some 165, op := Op.pick (Operand.tmp 162) (Operand.tmp 164) (Operand.const (Value.bool false)), type := 4, pos := "keep.go:113", after := #[{ on := 34, ground := Ground.data }, { on := 36, ground := Ground.data }, { on := 27, ground := Ground.guard }], guard := some (27, true) }) (v := ?vv29) rfl (by kernel_rfl) (by kernel_rfl) (by kernel_rfl) (fun _ _ _ h => h) (Or.inl ⟨by rfl, ?hy29⟩) (by assumption) ?rest29
    case hy29 => (intro w hSw; (try dsimp only at hSw); go_simp) <;> try with_reducible rfl
    try simp only [Act.put, List.setIfInBounds_toArray, List.set_cons_zero, List.set_cons_succ]
    refine wpAnyH_take (i := 38) (oi := { dst := some 166, op := Op.binOp BinOp.eql 4 (Operand.tmp 160) (Operand.tmp 165) 4, type := 4, pos := "keep.go:113", after := #[{ on := 32, ground := Ground.data }, { on := 37, ground := Ground.data }, { on := 27, ground := Ground.guard }], guard := some (27, true) }) (v := ?vv30) rfl (by kernel_rfl) (by kernel_rfl) (by kernel_rfl) (fun _ _ _ h => h) (Or.inl ⟨by rfl, ?hy30⟩) (by assumption) ?rest30
    case hy30 => (intro w hSw; (try dsimp only at hSw); go_simp) <;> try with_reducible rfl
    try simp only [Act.put, List.setIfInBounds_toArray, List.set_cons_zero, List.set_cons_succ]
    refine wpAnyH_take (i := 39) (oi := { dst := some 167, op := Op.pick (Operand.tmp 155) (Operand.tmp 166) (Operand.const (Value.bool false)), type := 4, pos := "keep.go:113", after := #[{ on := 27, ground := Ground.data }, { on := 38, ground := Ground.data }], guard := none }) (v := ?vv31) rfl (by kernel_rfl) (by kernel_rfl) (by kernel_rfl) (fun _ _ _ h => h) (Or.inl ⟨by rfl, ?hy31⟩) (by assumption) ?rest31
    case hy31 => (intro w hSw; (try dsimp only at hSw); go_simp) <;> try with_reducible rfl
    try simp only [Act.put, List.setIfInBounds_toArray, List.set_cons_zero, List.set_cons_succ]
    refine wpAnyH_take (i := 40) (oi := { dst := some 168, op := Op.move (Operand.tmp 167), type := 4, pos := "keep.go:113", after := #[{ on := 39, ground := Ground.data }, { on := 34, ground := Ground.chain }], guard := none }) (v := ?vv32) rfl (by kernel_rfl) (by kernel_rfl) (by kernel_rfl) (fun _ _ _ h => h) (Or.inl ⟨by rfl, ?hy32⟩) (by assumption) ?rest32
    case hy32 => (intro w hSw; (try dsimp only at hSw); go_simp) <;> try with_reducible rfl
    try simp only [Act.put, List.setIfInBounds_toArray, List.set_cons_zero, List.set_cons_succ]
    refine wpAnyH_take (i := 41) (oi := { dst := some 169, op := Op.move (Operand.tmp 9), type := 48, pos := "keep.go:113", after := #[{ on := 40, ground := Ground.guard }], guard := some (40, true) }) (v := ?vv33) rfl (by kernel_rfl) (by kernel_rfl) (by kernel_rfl) (fun _ _ _ h => h) (Or.inl ⟨by rfl, ?hy33⟩) (by assumption) ?rest33
    case hy33 => (intro w hSw; (try dsimp only at hSw); go_simp) <;> try with_reducible rfl
    try simp only [Act.put, List.setIfInBounds_toArray, List.set_cons_zero, List.set_cons_succ]
    refine wpAnyH_take (i := 43) (oi := { dst := some 171, op := Op.load 3 (Operand.tmp 7), type := 3, pos := "keep.go:113", after := #[{ on := 40, ground := Ground.guard }], guard := some (40, true) }) (v := ?vv34) rfl (by kernel_rfl) (by kernel_rfl) (by kernel_rfl) (fun _ _ _ h => h) (Or.inl ⟨by rfl, ?hy34⟩) (by assumption) ?rest34
    case hy34 => (intro w hSw; (try dsimp only at hSw); go_simp) <;> try with_reducible rfl
    try simp only [Act.put, List.setIfInBounds_toArray, List.set_cons_zero, List.set_cons_succ]
    refine wpAnyH_take (i := 45) (oi := { dst := some 173, op := Op.move (Operand.tmp 13), type := 4, pos := "keep.go:113", after := #[{ on := 40, ground := Ground.guard }], guard := some (40, true) }) (v := ?vv35) rfl (by kernel_rfl) (by kernel_rfl) (by kernel_rfl) (fun _ _ _ h => h) (Or.inl ⟨by rfl, ?hy35⟩) (by assumption) ?rest35
    case hy35 => (intro w hSw; (try dsimp only at hSw); go_simp) <;> try with_reducible rfl
    try simp only [Act.put, List.setIfInBounds_toArray, List.set_cons_zero, List.set_cons_succ]
    refine wpAnyH_ready (rs := [42]) (by kernel_rfl) (by simp) ?_
    refine AllReadyH.cons (o := { dst := some 170, op := Op.call { callee := Callee.value (Operand.func 25), args := #[Operand.tmp 169], argTypes := #[48] }, type := 48, pos := "keep.go:113", after := #[{ on := 41, ground := Ground.data }, { on := 40, ground := Ground.chain }, { on := 40, ground := Ground.guard }], guard := some (40, true) }) rfl (fun K hK => ?_) AllReadyH.nil
    go_simp
    refine (not_any vX X (by omega) _ (rest_x (g := w.heap.size) (q := q) (vY := vY) (Y := Y) (by assumption)) RX).mono ?_
    rintro e w18 ⟨v18, rfl, hown18, hb18⟩
    go_wp2_with fail
    refine hK.out _ _ ?_ (fun hHeld => ?_)
    · exact rest_keep (by assumption) (by assumption)
    clear hK K
    try simp only [Act.put, List.setIfInBounds_toArray, List.set_cons_zero, List.set_cons_succ]
    refine wpAnyH_ready (rs := [44]) (by kernel_rfl) (by simp) ?_
    refine AllReadyH.cons (o := { dst := some 172, op := Op.call { callee := Callee.value (Operand.func 30), args := #[Operand.tmp 170, Operand.tmp 171], argTypes := #[48, 3] }, type := 4, pos := "keep.go:113", after := #[{ on := 42, ground := Ground.data }, { on := 43, ground := Ground.data }, { on := 42, ground := Ground.chain }, { on := 40, ground := Ground.guard }], guard := some (40, true) }) rfl (fun K hK => ?_) AllReadyH.nil
    go_simp
    refine (has_any v18 (RS.notL X) q (by omega) (RS.notL_right RX) _ (rg_of_own hown18)).mono ?_
    rintro e w19 ⟨rfl, hb19⟩
    rw [hrn]
    go_wp2_with fail
    refine hK.out _ _ ?_ (fun hHeld => ?_)
    · exact rest_keep (by assumption) (by assumption)
    clear hK K
    try simp only [Act.put, List.setIfInBounds_toArray, List.set_cons_zero, List.set_cons_succ]
    refine wpAnyH_take (i := 46) (oi := { dst := some 174, op := Op.binOp BinOp.neq 4 (Operand.tmp 172) (Operand.tmp 173) 4, type := 4, pos := "keep.go:113", after := #[{ on := 44, ground := Ground.data }, { on := 45, ground := Ground.data }, { on := 40, ground := Ground.guard }], guard := some (40, true) }) (v := ?vv36) rfl (by kernel_rfl) (by kernel_rfl) (by kernel_rfl) (fun _ _ _ h => h) (Or.inl ⟨by rfl, ?hy36⟩) (by assumption) ?rest36
    case hy36 => (intro w hSw; (try dsimp only at hSw); go_simp) <;> try with_reducible rfl
    try simp only [Act.put, List.setIfInBounds_toArray, List.set_cons_zero, List.set_cons_succ]
    refine wpAnyH_take (i := 47) (oi := { dst := some 175, op := Op.pick (Operand.tmp 168) (Operand.tmp 174) (Operand.const (Value.bool false)), type := 4, pos := "keep.go:113", after := #[{ on := 40, ground := Ground.data }, { on := 46, ground := Ground.data }], guard := none }) (v := ?vv37) rfl (by kernel_rfl) (by kernel_rfl) (by kernel_rfl) (fun _ _ _ h => h) (Or.inl ⟨by rfl, ?hy37⟩) (by assumption) ?rest37
    case hy37 => (intro w hSw; (try dsimp only at hSw); go_simp) <;> try with_reducible rfl
    try simp only [Act.put, List.setIfInBounds_toArray, List.set_cons_zero, List.set_cons_succ]
    refine wpAnyH_take (i := 48) (oi := { dst := some 8, op := Op.assign (Operand.tmp 175), type := 4, pos := "keep.go:113", after := #[{ on := 47, ground := Ground.data }, { on := 44, ground := Ground.chain }, { on := 0, ground := Ground.phase }, { on := 1, ground := Ground.phase }, { on := 2, ground := Ground.phase }, { on := 3, ground := Ground.phase }, { on := 4, ground := Ground.phase }, { on := 5, ground := Ground.phase }, { on := 6, ground := Ground.phase }, { on := 7, ground := Ground.phase }, { on := 8, ground := Ground.phase }, { on := 9, ground := Ground.phase }, { on := 10, ground := Ground.phase }, { on := 11, ground := Ground.phase }, { on := 12, ground := Ground.phase }, { on := 13, ground := Ground.phase }, { on := 14, ground := Ground.phase }, { on := 15, ground := Ground.phase }, { on := 16, ground := Ground.phase }, { on := 17, ground := Ground.phase }, { on := 18, ground := Ground.phase }, { on := 19, ground := Ground.phase }, { on := 20, ground := Ground.phase }, { on := 21, ground := Ground.phase }, { on := 22, ground := Ground.phase }, { on := 23, ground := Ground.phase }, { on := 24, ground := Ground.phase }, { on := 25, ground := Ground.phase }, { on := 26, ground := Ground.phase }, { on := 27, ground := Ground.phase }, { on := 28, ground := Ground.phase }, { on := 29, ground := Ground.phase }, { on := 30, ground := Ground.phase }, { on := 31, ground := Ground.phase }, { on := 32, ground := Ground.phase }, { on := 33, ground := Ground.phase }, { on := 34, ground := Ground.phase }, { on := 35, ground := Ground.phase }, { on := 36, ground := Ground.phase }, { on := 37, ground := Ground.phase }, { on := 38, ground := Ground.phase }, { on := 39, ground := Ground.phase }, { on := 40, ground := Ground.phase }, { on := 41, ground := Ground.phase }, { on := 42, ground := Ground.phase }, { on := 43, ground := Ground.phase }, { on := 44, ground := Ground.phase }, { on := 45, ground := Ground.phase }, { on := 46, ground := Ground.phase }, { on := 47, ground := Ground.phase }], guard := none }) (v := ?vv38) rfl (by kernel_rfl) (by kernel_rfl) (by kernel_rfl) (fun _ _ _ h => h) (Or.inl ⟨by rfl, ?hy38⟩) (by assumption) ?rest38
    case hy38 => (intro w hSw; (try dsimp only at hSw); go_simp) <;> try with_reducible rfl
    try simp only [Act.put, List.setIfInBounds_toArray, List.set_cons_zero, List.set_cons_succ]
    refine wpAnyH_done (by kernel_rfl) ?_ _
    have h12 := below_drew hb12
    have h13 := h12.trans (hb13.mono h12.size)
    have h14 := h13.trans (hb14.mono h13.size)
    have h15 := h14.trans (hb15.mono h14.size)
    have h16 := h15.trans (hb16.mono h15.size)
    have h17 := h16.trans (hb17.mono h16.size)
    have h18 := h17.trans (hb18.mono h17.size)
    have h19 := h18.trans (hb19.mono h18.size)
    have hE := hB11.trans (h19.mono hB11.size)
    go_wp2
    go_ret
    exact ⟨rfl, hE⟩
  · have hro : ∀ r, RS.IsOf (X ++ Y) r → RS.has r q = (true) := fun r hr => by rw [HRO.out r hr]; simp
    have hra : RS.has (RS.andL X Y) q = (bY) := by rw [HRA.out]; simp
    have hrl : RS.has (RS.lessL X Y) q = (!bY) := by rw [HRL.out]; simp
    have hrn : RS.has (RS.notL X) q = (false) := by rw [HRN.out]; rfl
    clear HRO HRA HRL HRN
    refine wp_region_held_drew (S := (fun w' => w'.cell? ⟨w.heap.size, 0, none⟩ = some (.int .i64 q) ∧ Rest w.heap.size vX X vY Y w')) (by kernel_rfl) ⟨hc11, HR11.out⟩ (fun hHeld => ?_)
    refine wpAnyH_take (i := 0) (oi := { dst := some 128, op := Op.move (Operand.tmp 13), type := 4, pos := "keep.go:113", after := #[], guard := none }) (v := ?vv39) rfl (by kernel_rfl) (by kernel_rfl) (by kernel_rfl) (fun _ _ _ h => h) (Or.inl ⟨by rfl, ?hy39⟩) (by assumption) ?rest39
    case hy39 => (intro w hSw; (try dsimp only at hSw); go_simp) <;> try with_reducible rfl
    try simp only [Act.put, List.setIfInBounds_toArray, List.set_cons_zero, List.set_cons_succ]
    refine wpAnyH_take (i := 1) (oi := { dst := some 129, op := Op.move (Operand.tmp 15), type := 4, pos := "keep.go:113", after := #[], guard := none }) (v := ?vv40) rfl (by kernel_rfl) (by kernel_rfl) (by kernel_rfl) (fun _ _ _ h => h) (Or.inl ⟨by rfl, ?hy40⟩) (by assumption) ?rest40
    case hy40 => (intro w hSw; (try dsimp only at hSw); go_simp) <;> try with_reducible rfl
    try simp only [Act.put, List.setIfInBounds_toArray, List.set_cons_zero, List.set_cons_succ]
    refine wpAnyH_take (i := 2) (oi := { dst := some 130, op := Op.binOp BinOp.eql 4 (Operand.tmp 128) (Operand.tmp 129) 4, type := 4, pos := "keep.go:113", after := #[{ on := 0, ground := Ground.data }, { on := 1, ground := Ground.data }], guard := none }) (v := ?vv41) rfl (by kernel_rfl) (by kernel_rfl) (by kernel_rfl) (fun _ _ _ h => h) (Or.inl ⟨by rfl, ?hy41⟩) (by assumption) ?rest41
    case hy41 => (intro w hSw; (try dsimp only at hSw); go_simp) <;> try with_reducible rfl
    try simp only [Act.put, List.setIfInBounds_toArray, List.set_cons_zero, List.set_cons_succ]
    refine wpAnyH_take (i := 3) (oi := { dst := some 131, op := Op.move (Operand.tmp 130), type := 4, pos := "keep.go:113", after := #[{ on := 2, ground := Ground.data }], guard := none }) (v := ?vv42) rfl (by kernel_rfl) (by kernel_rfl) (by kernel_rfl) (fun _ _ _ h => h) (Or.inl ⟨by rfl, ?hy42⟩) (by assumption) ?rest42
    case hy42 => (intro w hSw; (try dsimp only at hSw); go_simp) <;> try with_reducible rfl
    try simp only [Act.put, List.setIfInBounds_toArray, List.set_cons_zero, List.set_cons_succ]
    refine wpAnyH_take (i := 4) (oi := { dst := some 132, op := Op.move (Operand.tmp 9), type := 48, pos := "keep.go:113", after := #[{ on := 3, ground := Ground.guard }], guard := some (3, true) }) (v := ?vv43) rfl (by kernel_rfl) (by kernel_rfl) (by kernel_rfl) (fun _ _ _ h => h) (Or.inl ⟨by rfl, ?hy43⟩) (by assumption) ?rest43
    case hy43 => (intro w hSw; (try dsimp only at hSw); go_simp) <;> try with_reducible rfl
    try simp only [Act.put, List.setIfInBounds_toArray, List.set_cons_zero, List.set_cons_succ]
    refine wpAnyH_take (i := 5) (oi := { dst := some 133, op := Op.move (Operand.tmp 10), type := 48, pos := "keep.go:113", after := #[{ on := 3, ground := Ground.guard }], guard := some (3, true) }) (v := ?vv44) rfl (by kernel_rfl) (by kernel_rfl) (by kernel_rfl) (fun _ _ _ h => h) (Or.inl ⟨by rfl, ?hy44⟩) (by assumption) ?rest44
    case hy44 => (intro w hSw; (try dsimp only at hSw); go_simp) <;> try with_reducible rfl
    try simp only [Act.put, List.setIfInBounds_toArray, List.set_cons_zero, List.set_cons_succ]
    refine wpAnyH_take (i := 7) (oi := { dst := some 135, op := Op.load 3 (Operand.tmp 7), type := 3, pos := "keep.go:113", after := #[{ on := 3, ground := Ground.guard }], guard := some (3, true) }) (v := ?vv45) rfl (by kernel_rfl) (by kernel_rfl) (by kernel_rfl) (fun _ _ _ h => h) (Or.inl ⟨by rfl, ?hy45⟩) (by assumption) ?rest45
    case hy45 => (intro w hSw; (try dsimp only at hSw); go_simp) <;> try with_reducible rfl
    try simp only [Act.put, List.setIfInBounds_toArray, List.set_cons_zero, List.set_cons_succ]
    refine wpAnyH_take (i := 9) (oi := { dst := some 137, op := Op.move (Operand.tmp 13), type := 4, pos := "keep.go:113", after := #[{ on := 3, ground := Ground.guard }], guard := some (3, true) }) (v := ?vv46) rfl (by kernel_rfl) (by kernel_rfl) (by kernel_rfl) (fun _ _ _ h => h) (Or.inl ⟨by rfl, ?hy46⟩) (by assumption) ?rest46
    case hy46 => (intro w hSw; (try dsimp only at hSw); go_simp) <;> try with_reducible rfl
    try simp only [Act.put, List.setIfInBounds_toArray, List.set_cons_zero, List.set_cons_succ]
    refine wpAnyH_ready (rs := [6]) (by kernel_rfl) (by simp) ?_
    refine AllReadyH.cons (o := { dst := some 134, op := Op.call { callee := Callee.value (Operand.func 26), args := #[Operand.tmp 132, Operand.tmp 133], argTypes := #[48, 48] }, type := 48, pos := "keep.go:113", after := #[{ on := 4, ground := Ground.data }, { on := 5, ground := Ground.data }, { on := 3, ground := Ground.chain }, { on := 3, ground := Ground.guard }], guard := some (3, true) }) rfl (fun K hK => ?_) AllReadyH.nil
    go_simp
    refine (or_any vX vY X Y (by omega) (by omega) _ (rest_x (g := w.heap.size) (q := q) (vY := vY) (Y := Y) (by assumption)) (rest_y (g := w.heap.size) (q := q) (vX := vX) (X := X) (by assumption))).mono ?_
    rintro e w12 ⟨v12, r12, rfl, hof12, hl12, hown12, hb12⟩
    go_wp2_with fail
    refine hK.out _ _ ?_ (fun hHeld => ?_)
    · exact rest_keep (by assumption) (by assumption)
    clear hK K
    try simp only [Act.put, List.setIfInBounds_toArray, List.set_cons_zero, List.set_cons_succ]
    refine wpAnyH_ready (rs := [8]) (by kernel_rfl) (by simp) ?_
    refine AllReadyH.cons (o := { dst := some 136, op := Op.call { callee := Callee.value (Operand.func 30), args := #[Operand.tmp 134, Operand.tmp 135], argTypes := #[48, 3] }, type := 4, pos := "keep.go:113", after := #[{ on := 6, ground := Ground.data }, { on := 7, ground := Ground.data }, { on := 6, ground := Ground.chain }, { on := 3, ground := Ground.guard }], guard := some (3, true) }) rfl (fun K hK => ?_) AllReadyH.nil
    go_simp
    refine (has_any v12 r12 q (by omega) hof12.1 _ (rg_of_own hown12)).mono ?_
    rintro e w13 ⟨rfl, hb13⟩
    rw [hro _ hof12]
    go_wp2_with fail
    refine hK.out _ _ ?_ (fun hHeld => ?_)
    · exact rest_keep (by assumption) (by assumption)
    clear hK K
    try simp only [Act.put, List.setIfInBounds_toArray, List.set_cons_zero, List.set_cons_succ]
    refine wpAnyH_take (i := 10) (oi := { dst := some 138, op := Op.move (Operand.tmp 137), type := 4, pos := "keep.go:113", after := #[{ on := 9, ground := Ground.data }, { on := 8, ground := Ground.chain }, { on := 3, ground := Ground.guard }], guard := some (3, true) }) (v := ?vv47) rfl (by kernel_rfl) (by kernel_rfl) (by kernel_rfl) (fun _ _ _ h => h) (Or.inl ⟨by rfl, ?hy47⟩) (by assumption) ?rest47
    case hy47 => (intro w hSw; (try dsimp only at hSw); go_simp) <;> try with_reducible rfl
    try simp only [Act.put, List.setIfInBounds_toArray, List.set_cons_zero, List.set_cons_succ]
    refine wpAnyH_take (i := 11) (oi := { dst := some 139, op := Op.move (Operand.tmp 14), type := 4, pos := "keep.go:113", after := #[{ on := 10, ground := Ground.guard }], guard := some (10, false) }) (v := undef) rfl (by kernel_rfl) (by kernel_rfl) (by kernel_rfl) (fun _ _ _ h => h) (Or.inr ⟨by rfl, rfl⟩) (by assumption) ?_
    try simp only [Act.put, List.setIfInBounds_toArray, List.set_cons_zero, List.set_cons_succ]
    refine wpAnyH_take (i := 12) (oi := { dst := some 140, op := Op.pick (Operand.tmp 138) (Operand.const (Value.bool true)) (Operand.tmp 139), type := 4, pos := "keep.go:113", after := #[{ on := 10, ground := Ground.data }, { on := 11, ground := Ground.data }, { on := 3, ground := Ground.guard }], guard := some (3, true) }) (v := ?vv48) rfl (by kernel_rfl) (by kernel_rfl) (by kernel_rfl) (fun _ _ _ h => h) (Or.inl ⟨by rfl, ?hy48⟩) (by assumption) ?rest48
    case hy48 => (intro w hSw; (try dsimp only at hSw); go_simp) <;> try with_reducible rfl
    try simp only [Act.put, List.setIfInBounds_toArray, List.set_cons_zero, List.set_cons_succ]
    refine wpAnyH_take (i := 13) (oi := { dst := some 141, op := Op.binOp BinOp.eql 4 (Operand.tmp 136) (Operand.tmp 140) 4, type := 4, pos := "keep.go:113", after := #[{ on := 8, ground := Ground.data }, { on := 12, ground := Ground.data }, { on := 3, ground := Ground.guard }], guard := some (3, true) }) (v := ?vv49) rfl (by kernel_rfl) (by kernel_rfl) (by kernel_rfl) (fun _ _ _ h => h) (Or.inl ⟨by rfl, ?hy49⟩) (by assumption) ?rest49
    case hy49 => (intro w hSw; (try dsimp only at hSw); go_simp) <;> try with_reducible rfl
    try simp only [Act.put, List.setIfInBounds_toArray, List.set_cons_zero, List.set_cons_succ]
    refine wpAnyH_take (i := 14) (oi := { dst := some 142, op := Op.pick (Operand.tmp 131) (Operand.tmp 141) (Operand.const (Value.bool false)), type := 4, pos := "keep.go:113", after := #[{ on := 3, ground := Ground.data }, { on := 13, ground := Ground.data }], guard := none }) (v := ?vv50) rfl (by kernel_rfl) (by kernel_rfl) (by kernel_rfl) (fun _ _ _ h => h) (Or.inl ⟨by rfl, ?hy50⟩) (by assumption) ?rest50
    case hy50 => (intro w hSw; (try dsimp only at hSw); go_simp) <;> try with_reducible rfl
    try simp only [Act.put, List.setIfInBounds_toArray, List.set_cons_zero, List.set_cons_succ]
    refine wpAnyH_take (i := 15) (oi := { dst := some 143, op := Op.move (Operand.tmp 142), type := 4, pos := "keep.go:113", after := #[{ on := 14, ground := Ground.data }, { on := 10, ground := Ground.chain }], guard := none }) (v := ?vv51) rfl (by kernel_rfl) (by kernel_rfl) (by kernel_rfl) (fun _ _ _ h => h) (Or.inl ⟨by rfl, ?hy51⟩) (by assumption) ?rest51
    case hy51 => (intro w hSw; (try dsimp only at hSw); go_simp) <;> try with_reducible rfl
    try simp only [Act.put, List.setIfInBounds_toArray, List.set_cons_zero, List.set_cons_succ]
    refine wpAnyH_take (i := 16) (oi := { dst := some 144, op := Op.move (Operand.tmp 9), type := 48, pos := "keep.go:113", after := #[{ on := 15, ground := Ground.guard }], guard := some (15, true) }) (v := ?vv52) rfl (by kernel_rfl) (by kernel_rfl) (by kernel_rfl) (fun _ _ _ h => h) (Or.inl ⟨by rfl, ?hy52⟩) (by assumption) ?rest52
    case hy52 => (intro w hSw; (try dsimp only at hSw); go_simp) <;> try with_reducible rfl
    try simp only [Act.put, List.setIfInBounds_toArray, List.set_cons_zero, List.set_cons_succ]
    refine wpAnyH_take (i := 17) (oi := { dst := some 145, op := Op.move (Operand.tmp 10), type := 48, pos := "keep.go:113", after := #[{ on := 15, ground := Ground.guard }], guard := some (15, true) }) (v := ?vv53) rfl (by kernel_rfl) (by kernel_rfl) (by kernel_rfl) (fun _ _ _ h => h) (Or.inl ⟨by rfl, ?hy53⟩) (by assumption) ?rest53
    case hy53 => (intro w hSw; (try dsimp only at hSw); go_simp) <;> try with_reducible rfl
    try simp only [Act.put, List.setIfInBounds_toArray, List.set_cons_zero, List.set_cons_succ]
    refine wpAnyH_take (i := 19) (oi := { dst := some 147, op := Op.load 3 (Operand.tmp 7), type := 3, pos := "keep.go:113", after := #[{ on := 15, ground := Ground.guard }], guard := some (15, true) }) (v := ?vv54) rfl (by kernel_rfl) (by kernel_rfl) (by kernel_rfl) (fun _ _ _ h => h) (Or.inl ⟨by rfl, ?hy54⟩) (by assumption) ?rest54
    case hy54 => (intro w hSw; (try dsimp only at hSw); go_simp) <;> try with_reducible rfl
    try simp only [Act.put, List.setIfInBounds_toArray, List.set_cons_zero, List.set_cons_succ]
    refine wpAnyH_take (i := 21) (oi := { dst := some 149, op := Op.move (Operand.tmp 13), type := 4, pos := "keep.go:113", after := #[{ on := 15, ground := Ground.guard }], guard := some (15, true) }) (v := ?vv55) rfl (by kernel_rfl) (by kernel_rfl) (by kernel_rfl) (fun _ _ _ h => h) (Or.inl ⟨by rfl, ?hy55⟩) (by assumption) ?rest55
    case hy55 => (intro w hSw; (try dsimp only at hSw); go_simp) <;> try with_reducible rfl
    try simp only [Act.put, List.setIfInBounds_toArray, List.set_cons_zero, List.set_cons_succ]
    refine wpAnyH_ready (rs := [18]) (by kernel_rfl) (by simp) ?_
    refine AllReadyH.cons (o := { dst := some 146, op := Op.call { callee := Callee.value (Operand.func 27), args := #[Operand.tmp 144, Operand.tmp 145], argTypes := #[48, 48] }, type := 48, pos := "keep.go:113", after := #[{ on := 16, ground := Ground.data }, { on := 17, ground := Ground.data }, { on := 15, ground := Ground.chain }, { on := 15, ground := Ground.guard }], guard := some (15, true) }) rfl (fun K hK => ?_) AllReadyH.nil
    go_simp
    refine (and_any vX vY X Y (by omega) (by omega) _ (rest_x (g := w.heap.size) (q := q) (vY := vY) (Y := Y) (by assumption)) (rest_y (g := w.heap.size) (q := q) (vX := vX) (X := X) (by assumption))).mono ?_
    rintro e w14 ⟨v14, rfl, hown14, hb14⟩
    go_wp2_with fail
    refine hK.out _ _ ?_ (fun hHeld => ?_)
    · exact rest_keep (by assumption) (by assumption)
    clear hK K
    try simp only [Act.put, List.setIfInBounds_toArray, List.set_cons_zero, List.set_cons_succ]
    refine wpAnyH_ready (rs := [20]) (by kernel_rfl) (by simp) ?_
    refine AllReadyH.cons (o := { dst := some 148, op := Op.call { callee := Callee.value (Operand.func 30), args := #[Operand.tmp 146, Operand.tmp 147], argTypes := #[48, 3] }, type := 4, pos := "keep.go:113", after := #[{ on := 18, ground := Ground.data }, { on := 19, ground := Ground.data }, { on := 18, ground := Ground.chain }, { on := 15, ground := Ground.guard }], guard := some (15, true) }) rfl (fun K hK => ?_) AllReadyH.nil
    go_simp
    refine (has_any v14 (RS.andL X Y) q (by omega) (RS.andL_right RX RY) _ (rg_of_own hown14)).mono ?_
    rintro e w15 ⟨rfl, hb15⟩
    rw [hra]
    go_wp2_with fail
    refine hK.out _ _ ?_ (fun hHeld => ?_)
    · exact rest_keep (by assumption) (by assumption)
    clear hK K
    try simp only [Act.put, List.setIfInBounds_toArray, List.set_cons_zero, List.set_cons_succ]
    refine wpAnyH_take (i := 22) (oi := { dst := some 150, op := Op.move (Operand.tmp 149), type := 4, pos := "keep.go:113", after := #[{ on := 21, ground := Ground.data }, { on := 20, ground := Ground.chain }, { on := 15, ground := Ground.guard }], guard := some (15, true) }) (v := ?vv56) rfl (by kernel_rfl) (by kernel_rfl) (by kernel_rfl) (fun _ _ _ h => h) (Or.inl ⟨by rfl, ?hy56⟩) (by assumption) ?rest56
    case hy56 => (intro w hSw; (try dsimp only at hSw); go_simp) <;> try with_reducible rfl
    try simp only [Act.put, List.setIfInBounds_toArray, List.set_cons_zero, List.set_cons_succ]
    refine wpAnyH_take (i := 23) (oi := { dst := some 151, op := Op.move (Operand.tmp 14), type := 4, pos := "keep.go:113", after := #[{ on := 22, ground := Ground.guard }], guard := some (22, true) }) (v := ?vv57) rfl (by kernel_rfl) (by kernel_rfl) (by kernel_rfl) (fun _ _ _ h => h) (Or.inl ⟨by rfl, ?hy57⟩) (by assumption) ?rest57
    case hy57 => (intro w hSw; (try dsimp only at hSw); go_simp) <;> try with_reducible rfl
    try simp only [Act.put, List.setIfInBounds_toArray, List.set_cons_zero, List.set_cons_succ]
    refine wpAnyH_take (i := 24) (oi := { dst := some 152, op := Op.pick (Operand.tmp 150) (Operand.tmp 151) (Operand.const (Value.bool false)), type := 4, pos := "keep.go:113", after := #[{ on := 22, ground := Ground.data }, { on := 23, ground := Ground.data }, { on := 15, ground := Ground.guard }], guard := some (15, true) }) (v := ?vv58) rfl (by kernel_rfl) (by kernel_rfl) (by kernel_rfl) (fun _ _ _ h => h) (Or.inl ⟨by rfl, ?hy58⟩) (by assumption) ?rest58
    case hy58 => (intro w hSw; (try dsimp only at hSw); go_simp) <;> try with_reducible rfl
    try simp only [Act.put, List.setIfInBounds_toArray, List.set_cons_zero, List.set_cons_succ]
    refine wpAnyH_take (i := 25) (oi := { dst := some 153, op := Op.binOp BinOp.eql 4 (Operand.tmp 148) (Operand.tmp 152) 4, type := 4, pos := "keep.go:113", after := #[{ on := 20, ground := Ground.data }, { on := 24, ground := Ground.data }, { on := 15, ground := Ground.guard }], guard := some (15, true) }) (v := ?vv59) rfl (by kernel_rfl) (by kernel_rfl) (by kernel_rfl) (fun _ _ _ h => h) (Or.inl ⟨by rfl, ?hy59⟩) (by assumption) ?rest59
    case hy59 => (intro w hSw; (try dsimp only at hSw); go_simp) <;> try with_reducible rfl
    try simp only [Act.put, List.setIfInBounds_toArray, List.set_cons_zero, List.set_cons_succ]
    refine wpAnyH_take (i := 26) (oi := { dst := some 154, op := Op.pick (Operand.tmp 143) (Operand.tmp 153) (Operand.const (Value.bool false)), type := 4, pos := "keep.go:113", after := #[{ on := 15, ground := Ground.data }, { on := 25, ground := Ground.data }], guard := none }) (v := ?vv60) rfl (by kernel_rfl) (by kernel_rfl) (by kernel_rfl) (fun _ _ _ h => h) (Or.inl ⟨by rfl, ?hy60⟩) (by assumption) ?rest60
    case hy60 => (intro w hSw; (try dsimp only at hSw); go_simp) <;> try with_reducible rfl
    try simp only [Act.put, List.setIfInBounds_toArray, List.set_cons_zero, List.set_cons_succ]
    refine wpAnyH_take (i := 27) (oi := { dst := some 155, op := Op.move (Operand.tmp 154), type := 4, pos := "keep.go:113", after := #[{ on := 26, ground := Ground.data }, { on := 22, ground := Ground.chain }], guard := none }) (v := ?vv61) rfl (by kernel_rfl) (by kernel_rfl) (by kernel_rfl) (fun _ _ _ h => h) (Or.inl ⟨by rfl, ?hy61⟩) (by assumption) ?rest61
    case hy61 => (intro w hSw; (try dsimp only at hSw); go_simp) <;> try with_reducible rfl
    try simp only [Act.put, List.setIfInBounds_toArray, List.set_cons_zero, List.set_cons_succ]
    refine wpAnyH_take (i := 28) (oi := { dst := some 156, op := Op.move (Operand.tmp 9), type := 48, pos := "keep.go:113", after := #[{ on := 27, ground := Ground.guard }], guard := some (27, true) }) (v := ?vv62) rfl (by kernel_rfl) (by kernel_rfl) (by kernel_rfl) (fun _ _ _ h => h) (Or.inl ⟨by rfl, ?hy62⟩) (by assumption) ?rest62
    case hy62 => (intro w hSw; (try dsimp only at hSw); go_simp) <;> try with_reducible rfl
    try simp only [Act.put, List.setIfInBounds_toArray, List.set_cons_zero, List.set_cons_succ]
    refine wpAnyH_take (i := 29) (oi := { dst := some 157, op := Op.move (Operand.tmp 10), type := 48, pos := "keep.go:113", after := #[{ on := 27, ground := Ground.guard }], guard := some (27, true) }) (v := ?vv63) rfl (by kernel_rfl) (by kernel_rfl) (by kernel_rfl) (fun _ _ _ h => h) (Or.inl ⟨by rfl, ?hy63⟩) (by assumption) ?rest63
    case hy63 => (intro w hSw; (try dsimp only at hSw); go_simp) <;> try with_reducible rfl
    try simp only [Act.put, List.setIfInBounds_toArray, List.set_cons_zero, List.set_cons_succ]
    refine wpAnyH_take (i := 31) (oi := { dst := some 159, op := Op.load 3 (Operand.tmp 7), type := 3, pos := "keep.go:113", after := #[{ on := 27, ground := Ground.guard }], guard := some (27, true) }) (v := ?vv64) rfl (by kernel_rfl) (by kernel_rfl) (by kernel_rfl) (fun _ _ _ h => h) (Or.inl ⟨by rfl, ?hy64⟩) (by assumption) ?rest64
    case hy64 => (intro w hSw; (try dsimp only at hSw); go_simp) <;> try with_reducible rfl
    try simp only [Act.put, List.setIfInBounds_toArray, List.set_cons_zero, List.set_cons_succ]
    refine wpAnyH_take (i := 33) (oi := { dst := some 161, op := Op.move (Operand.tmp 13), type := 4, pos := "keep.go:113", after := #[{ on := 27, ground := Ground.guard }], guard := some (27, true) }) (v := ?vv65) rfl (by kernel_rfl) (by kernel_rfl) (by kernel_rfl) (fun _ _ _ h => h) (Or.inl ⟨by rfl, ?hy65⟩) (by assumption) ?rest65
    case hy65 => (intro w hSw; (try dsimp only at hSw); go_simp) <;> try with_reducible rfl
    try simp only [Act.put, List.setIfInBounds_toArray, List.set_cons_zero, List.set_cons_succ]
    refine wpAnyH_ready (rs := [30]) (by kernel_rfl) (by simp) ?_
    refine AllReadyH.cons (o := { dst := some 158, op := Op.call { callee := Callee.value (Operand.func 28), args := #[Operand.tmp 156, Operand.tmp 157], argTypes := #[48, 48] }, type := 48, pos := "keep.go:113", after := #[{ on := 28, ground := Ground.data }, { on := 29, ground := Ground.data }, { on := 27, ground := Ground.chain }, { on := 27, ground := Ground.guard }], guard := some (27, true) }) rfl (fun K hK => ?_) AllReadyH.nil
    go_simp
    refine (less_any vX vY X Y (by omega) (by omega) RY _ (rest_x (g := w.heap.size) (q := q) (vY := vY) (Y := Y) (by assumption)) (rest_y (g := w.heap.size) (q := q) (vX := vX) (X := X) (by assumption))).mono ?_
    rintro e w16 ⟨v16, rfl, hown16, hb16⟩
    go_wp2_with fail
    refine hK.out _ _ ?_ (fun hHeld => ?_)
    · exact rest_keep (by assumption) (by assumption)
    clear hK K
    try simp only [Act.put, List.setIfInBounds_toArray, List.set_cons_zero, List.set_cons_succ]
    refine wpAnyH_ready (rs := [32]) (by kernel_rfl) (by simp) ?_
    refine AllReadyH.cons (o := { dst := some 160, op := Op.call { callee := Callee.value (Operand.func 30), args := #[Operand.tmp 158, Operand.tmp 159], argTypes := #[48, 3] }, type := 4, pos := "keep.go:113", after := #[{ on := 30, ground := Ground.data }, { on := 31, ground := Ground.data }, { on := 30, ground := Ground.chain }, { on := 27, ground := Ground.guard }], guard := some (27, true) }) rfl (fun K hK => ?_) AllReadyH.nil
    go_simp
    refine (has_any v16 (RS.lessL X Y) q (by omega) (RS.lessL_right RX RY) _ (rg_of_own hown16)).mono ?_
    rintro e w17 ⟨rfl, hb17⟩
    rw [hrl]
    go_wp2_with fail
    refine hK.out _ _ ?_ (fun hHeld => ?_)
    · exact rest_keep (by assumption) (by assumption)
    clear hK K
    try simp only [Act.put, List.setIfInBounds_toArray, List.set_cons_zero, List.set_cons_succ]
    refine wpAnyH_take (i := 34) (oi := { dst := some 162, op := Op.move (Operand.tmp 161), type := 4, pos := "keep.go:113", after := #[{ on := 33, ground := Ground.data }, { on := 32, ground := Ground.chain }, { on := 27, ground := Ground.guard }], guard := some (27, true) }) (v := ?vv66) rfl (by kernel_rfl) (by kernel_rfl) (by kernel_rfl) (fun _ _ _ h => h) (Or.inl ⟨by rfl, ?hy66⟩) (by assumption) ?rest66
    case hy66 => (intro w hSw; (try dsimp only at hSw); go_simp) <;> try with_reducible rfl
    try simp only [Act.put, List.setIfInBounds_toArray, List.set_cons_zero, List.set_cons_succ]
    refine wpAnyH_take (i := 35) (oi := { dst := some 163, op := Op.move (Operand.tmp 14), type := 4, pos := "keep.go:113", after := #[{ on := 34, ground := Ground.guard }], guard := some (34, true) }) (v := ?vv67) rfl (by kernel_rfl) (by kernel_rfl) (by kernel_rfl) (fun _ _ _ h => h) (Or.inl ⟨by rfl, ?hy67⟩) (by assumption) ?rest67
    case hy67 => (intro w hSw; (try dsimp only at hSw); go_simp) <;> try with_reducible rfl
    try simp only [Act.put, List.setIfInBounds_toArray, List.set_cons_zero, List.set_cons_succ]
    refine wpAnyH_take (i := 36) (oi := { dst := some 164, op := Op.unOp UnOp.not 4 (Operand.tmp 163), type := 4, pos := "keep.go:113", after := #[{ on := 35, ground := Ground.data }, { on := 34, ground := Ground.guard }], guard := some (34, true) }) (v := ?vv68) rfl (by kernel_rfl) (by kernel_rfl) (by kernel_rfl) (fun _ _ _ h => h) (Or.inl ⟨by rfl, ?hy68⟩) (by assumption) ?rest68
    case hy68 => (intro w hSw; (try dsimp only at hSw); go_simp) <;> try with_reducible rfl
    try simp only [Act.put, List.setIfInBounds_toArray, List.set_cons_zero, List.set_cons_succ]
    refine wpAnyH_take (i := 37) (oi := { dst := some 165, op := Op.pick (Operand.tmp 162) (Operand.tmp 164) (Operand.const (Value.bool false)), type := 4, pos := "keep.go:113", after := #[{ on := 34, ground := Ground.data }, { on := 36, ground := Ground.data }, { on := 27, ground := Ground.guard }], guard := some (27, true) }) (v := ?vv69) rfl (by kernel_rfl) (by kernel_rfl) (by kernel_rfl) (fun _ _ _ h => h) (Or.inl ⟨by rfl, ?hy69⟩) (by assumption) ?rest69
    case hy69 => (intro w hSw; (try dsimp only at hSw); go_simp) <;> try with_reducible rfl
    try simp only [Act.put, List.setIfInBounds_toArray, List.set_cons_zero, List.set_cons_succ]
    refine wpAnyH_take (i := 38) (oi := { dst := some 166, op := Op.binOp BinOp.eql 4 (Operand.tmp 160) (Operand.tmp 165) 4, type := 4, pos := "keep.go:113", after := #[{ on := 32, ground := Ground.data }, { on := 37, ground := Ground.data }, { on := 27, ground := Ground.guard }], guard := some (27, true) }) (v := ?vv70) rfl (by kernel_rfl) (by kernel_rfl) (by kernel_rfl) (fun _ _ _ h => h) (Or.inl ⟨by rfl, ?hy70⟩) (by assumption) ?rest70
    case hy70 => (intro w hSw; (try dsimp only at hSw); go_simp) <;> try with_reducible rfl
    try simp only [Act.put, List.setIfInBounds_toArray, List.set_cons_zero, List.set_cons_succ]
    refine wpAnyH_take (i := 39) (oi := { dst := some 167, op := Op.pick (Operand.tmp 155) (Operand.tmp 166) (Operand.const (Value.bool false)), type := 4, pos := "keep.go:113", after := #[{ on := 27, ground := Ground.data }, { on := 38, ground := Ground.data }], guard := none }) (v := ?vv71) rfl (by kernel_rfl) (by kernel_rfl) (by kernel_rfl) (fun _ _ _ h => h) (Or.inl ⟨by rfl, ?hy71⟩) (by assumption) ?rest71
    case hy71 => (intro w hSw; (try dsimp only at hSw); go_simp) <;> try with_reducible rfl
    try simp only [Act.put, List.setIfInBounds_toArray, List.set_cons_zero, List.set_cons_succ]
    refine wpAnyH_take (i := 40) (oi := { dst := some 168, op := Op.move (Operand.tmp 167), type := 4, pos := "keep.go:113", after := #[{ on := 39, ground := Ground.data }, { on := 34, ground := Ground.chain }], guard := none }) (v := ?vv72) rfl (by kernel_rfl) (by kernel_rfl) (by kernel_rfl) (fun _ _ _ h => h) (Or.inl ⟨by rfl, ?hy72⟩) (by assumption) ?rest72
    case hy72 => (intro w hSw; (try dsimp only at hSw); go_simp) <;> try with_reducible rfl
    try simp only [Act.put, List.setIfInBounds_toArray, List.set_cons_zero, List.set_cons_succ]
    refine wpAnyH_take (i := 41) (oi := { dst := some 169, op := Op.move (Operand.tmp 9), type := 48, pos := "keep.go:113", after := #[{ on := 40, ground := Ground.guard }], guard := some (40, true) }) (v := ?vv73) rfl (by kernel_rfl) (by kernel_rfl) (by kernel_rfl) (fun _ _ _ h => h) (Or.inl ⟨by rfl, ?hy73⟩) (by assumption) ?rest73
    case hy73 => (intro w hSw; (try dsimp only at hSw); go_simp) <;> try with_reducible rfl
    try simp only [Act.put, List.setIfInBounds_toArray, List.set_cons_zero, List.set_cons_succ]
    refine wpAnyH_take (i := 43) (oi := { dst := some 171, op := Op.load 3 (Operand.tmp 7), type := 3, pos := "keep.go:113", after := #[{ on := 40, ground := Ground.guard }], guard := some (40, true) }) (v := ?vv74) rfl (by kernel_rfl) (by kernel_rfl) (by kernel_rfl) (fun _ _ _ h => h) (Or.inl ⟨by rfl, ?hy74⟩) (by assumption) ?rest74
    case hy74 => (intro w hSw; (try dsimp only at hSw); go_simp) <;> try with_reducible rfl
    try simp only [Act.put, List.setIfInBounds_toArray, List.set_cons_zero, List.set_cons_succ]
    refine wpAnyH_take (i := 45) (oi := { dst := some 173, op := Op.move (Operand.tmp 13), type := 4, pos := "keep.go:113", after := #[{ on := 40, ground := Ground.guard }], guard := some (40, true) }) (v := ?vv75) rfl (by kernel_rfl) (by kernel_rfl) (by kernel_rfl) (fun _ _ _ h => h) (Or.inl ⟨by rfl, ?hy75⟩) (by assumption) ?rest75
    case hy75 => (intro w hSw; (try dsimp only at hSw); go_simp) <;> try with_reducible rfl
    try simp only [Act.put, List.setIfInBounds_toArray, List.set_cons_zero, List.set_cons_succ]
    refine wpAnyH_ready (rs := [42]) (by kernel_rfl) (by simp) ?_
    refine AllReadyH.cons (o := { dst := some 170, op := Op.call { callee := Callee.value (Operand.func 25), args := #[Operand.tmp 169], argTypes := #[48] }, type := 48, pos := "keep.go:113", after := #[{ on := 41, ground := Ground.data }, { on := 40, ground := Ground.chain }, { on := 40, ground := Ground.guard }], guard := some (40, true) }) rfl (fun K hK => ?_) AllReadyH.nil
    go_simp
    refine (not_any vX X (by omega) _ (rest_x (g := w.heap.size) (q := q) (vY := vY) (Y := Y) (by assumption)) RX).mono ?_
    rintro e w18 ⟨v18, rfl, hown18, hb18⟩
    go_wp2_with fail
    refine hK.out _ _ ?_ (fun hHeld => ?_)
    · exact rest_keep (by assumption) (by assumption)
    clear hK K
    try simp only [Act.put, List.setIfInBounds_toArray, List.set_cons_zero, List.set_cons_succ]
    refine wpAnyH_ready (rs := [44]) (by kernel_rfl) (by simp) ?_
    refine AllReadyH.cons (o := { dst := some 172, op := Op.call { callee := Callee.value (Operand.func 30), args := #[Operand.tmp 170, Operand.tmp 171], argTypes := #[48, 3] }, type := 4, pos := "keep.go:113", after := #[{ on := 42, ground := Ground.data }, { on := 43, ground := Ground.data }, { on := 42, ground := Ground.chain }, { on := 40, ground := Ground.guard }], guard := some (40, true) }) rfl (fun K hK => ?_) AllReadyH.nil
    go_simp
    refine (has_any v18 (RS.notL X) q (by omega) (RS.notL_right RX) _ (rg_of_own hown18)).mono ?_
    rintro e w19 ⟨rfl, hb19⟩
    rw [hrn]
    go_wp2_with fail
    refine hK.out _ _ ?_ (fun hHeld => ?_)
    · exact rest_keep (by assumption) (by assumption)
    clear hK K
    try simp only [Act.put, List.setIfInBounds_toArray, List.set_cons_zero, List.set_cons_succ]
    refine wpAnyH_take (i := 46) (oi := { dst := some 174, op := Op.binOp BinOp.neq 4 (Operand.tmp 172) (Operand.tmp 173) 4, type := 4, pos := "keep.go:113", after := #[{ on := 44, ground := Ground.data }, { on := 45, ground := Ground.data }, { on := 40, ground := Ground.guard }], guard := some (40, true) }) (v := ?vv76) rfl (by kernel_rfl) (by kernel_rfl) (by kernel_rfl) (fun _ _ _ h => h) (Or.inl ⟨by rfl, ?hy76⟩) (by assumption) ?rest76
    case hy76 => (intro w hSw; (try dsimp only at hSw); go_simp) <;> try with_reducible rfl
    try simp only [Act.put, List.setIfInBounds_toArray, List.set_cons_zero, List.set_cons_succ]
    refine wpAnyH_take (i := 47) (oi := { dst := some 175, op := Op.pick (Operand.tmp 168) (Operand.tmp 174) (Operand.const (Value.bool false)), type := 4, pos := "keep.go:113", after := #[{ on := 40, ground := Ground.data }, { on := 46, ground := Ground.data }], guard := none }) (v := ?vv77) rfl (by kernel_rfl) (by kernel_rfl) (by kernel_rfl) (fun _ _ _ h => h) (Or.inl ⟨by rfl, ?hy77⟩) (by assumption) ?rest77
    case hy77 => (intro w hSw; (try dsimp only at hSw); go_simp) <;> try with_reducible rfl
    try simp only [Act.put, List.setIfInBounds_toArray, List.set_cons_zero, List.set_cons_succ]
    refine wpAnyH_take (i := 48) (oi := { dst := some 8, op := Op.assign (Operand.tmp 175), type := 4, pos := "keep.go:113", after := #[{ on := 47, ground := Ground.data }, { on := 44, ground := Ground.chain }, { on := 0, ground := Ground.phase }, { on := 1, ground := Ground.phase }, { on := 2, ground := Ground.phase }, { on := 3, ground := Ground.phase }, { on := 4, ground := Ground.phase }, { on := 5, ground := Ground.phase }, { on := 6, ground := Ground.phase }, { on := 7, ground := Ground.phase }, { on := 8, ground := Ground.phase }, { on := 9, ground := Ground.phase }, { on := 10, ground := Ground.phase }, { on := 11, ground := Ground.phase }, { on := 12, ground := Ground.phase }, { on := 13, ground := Ground.phase }, { on := 14, ground := Ground.phase }, { on := 15, ground := Ground.phase }, { on := 16, ground := Ground.phase }, { on := 17, ground := Ground.phase }, { on := 18, ground := Ground.phase }, { on := 19, ground := Ground.phase }, { on := 20, ground := Ground.phase }, { on := 21, ground := Ground.phase }, { on := 22, ground := Ground.phase }, { on := 23, ground := Ground.phase }, { on := 24, ground := Ground.phase }, { on := 25, ground := Ground.phase }, { on := 26, ground := Ground.phase }, { on := 27, ground := Ground.phase }, { on := 28, ground := Ground.phase }, { on := 29, ground := Ground.phase }, { on := 30, ground := Ground.phase }, { on := 31, ground := Ground.phase }, { on := 32, ground := Ground.phase }, { on := 33, ground := Ground.phase }, { on := 34, ground := Ground.phase }, { on := 35, ground := Ground.phase }, { on := 36, ground := Ground.phase }, { on := 37, ground := Ground.phase }, { on := 38, ground := Ground.phase }, { on := 39, ground := Ground.phase }, { on := 40, ground := Ground.phase }, { on := 41, ground := Ground.phase }, { on := 42, ground := Ground.phase }, { on := 43, ground := Ground.phase }, { on := 44, ground := Ground.phase }, { on := 45, ground := Ground.phase }, { on := 46, ground := Ground.phase }, { on := 47, ground := Ground.phase }], guard := none }) (v := ?vv78) rfl (by kernel_rfl) (by kernel_rfl) (by kernel_rfl) (fun _ _ _ h => h) (Or.inl ⟨by rfl, ?hy78⟩) (by assumption) ?rest78
    case hy78 => (intro w hSw; (try dsimp only at hSw); go_simp) <;> try with_reducible rfl
    try simp only [Act.put, List.setIfInBounds_toArray, List.set_cons_zero, List.set_cons_succ]
    refine wpAnyH_done (by kernel_rfl) ?_ _
    have h12 := below_drew hb12
    have h13 := h12.trans (hb13.mono h12.size)
    have h14 := h13.trans (hb14.mono h13.size)
    have h15 := h14.trans (hb15.mono h14.size)
    have h16 := h15.trans (hb16.mono h15.size)
    have h17 := h16.trans (hb17.mono h16.size)
    have h18 := h17.trans (hb18.mono h17.size)
    have h19 := h18.trans (hb19.mono h18.size)
    have hE := hB11.trans (h19.mono hB11.size)
    go_wp2
    go_ret
    exact ⟨rfl, hE⟩

end Go.Proofs.YtdhnbmocdgmndaaDoor
