/- The walk of the statement SetTells, whole. -/
import Derived.Test.YtefcjoomongcmaaGreatDoorRTopA
namespace Go.Proofs.YtefcjoomongcmaaGreatDoor
open Go.RowKit Go.Shelf
set_option maxHeartbeats 8000000 in
set_option maxRecDepth 100000 in
theorem tells_main (ao bo : Option Addr) (ca cb : Nat) (A B : List RS.Rg) (p : Int) (s : ByteArray) (hA : A.length ≤ 30) (hB : B.length ≤ 30) (hs : s.size ≤ 300) (w : World) (hK : KT w)
    (ha : RgAt w.heap.size w (.slice ao A.length ca) A) (hb : RgAt w.heap.size w (.slice bo B.length cb) B) :
    Calls Tryz.prog 3 #[.slice ao A.length ca, .slice bo B.length cb, .int .i64 p, .string s] w fun e w' => e = .returned (.bool true) ∧ Below w.heap.size w w' := by
  have hA' : (A.length : Int) ≤ 30 := by omega
  have hB' : (B.length : Int) ≤ 30 := by omega
  have hs' : (s.size : Int) ≤ 300 := by omega
  have HA : Hid (RgAt w.heap.size w (.slice ao A.length ca) A) := ha
  have HB : Hid (RgAt w.heap.size w (.slice bo B.length cb) B) := hb
  have K0 : Hid (KT w) := hK
  obtain ⟨ra, hra⟩ : ∃ ra, ra = RS.right A := ⟨_, rfl⟩
  have hR1 := fun (W : World) (h : RgAt W.heap.size W (.slice ao A.length ca) A) => right_any _ A (by omega) W h
  have hR2 := fun (W : World) (h : RgAt W.heap.size W (.slice ao A.length ca) A) => rright_any _ A (by omega) W h
  simp only [← hra] at hR1 hR2
  have HR1 : Hid (∀ (W : World), RgAt W.heap.size W (.slice ao A.length ca) A → Calls Tryz.prog 4 #[.slice ao A.length ca] W fun e w' => e = .returned (.bool ra) ∧ Below W.heap.size W w') := hR1
  have HR2 : Hid (∀ (W : World), RgAt W.heap.size W (.slice ao A.length ca) A → Calls Tryz.prog 5 #[.slice ao A.length ca] W fun e w' => e = .returned (.bool ra) ∧ Below W.heap.size W w') := hR2
  clear ha hb hK hra hR1 hR2
  have b0 : Below w.heap.size w w := Below.refl _ _
  go_enter Tryz.func3, Tryz.ntmps3
  go_wp2_with fail
  refine (HR1.out w HA.out).mono ?_
  rintro e W1 ⟨rfl, hb1⟩
  have b1 : Below w.heap.size w W1 := b0.trans (hb1.mono b0.size)
  clear hb1
  go_wp2_with fail
  refine (HR2.out W1 (RgAt.below HA.out b1 _ b1.size)).mono ?_
  rintro e W2 ⟨rfl, hb2⟩
  have b2 : Below w.heap.size w W2 := b1.trans (hb2.mono b1.size)
  clear hb2
  go_wp2_with fail
  refine (rof_any _ A (by omega) W2 (RgAt.below HA.out b2 _ b2.size)).mono ?_
  rintro e W3 ⟨vx, X, rfl, hxr, hxm, hxl, hown, hb3⟩
  have b3 : Below w.heap.size w W3 := b2.trans (hb3.mono b2.size)
  have H_vx : Hid (RgAt W3.heap.size W3 vx X) := rg_of_own hown
  clear hown
  have HXR : Hid (RS.right X = true) := hxr
  have HXM : Hid (∀ p, RS.mem X p ↔ 0 ≤ p ∧ p ≤ 1114111 ∧ RS.has A p = true) := hxm
  have hxl' : X.length ≤ 62 := by omega
  clear hxr hxm hxl
  clear hb3
  go_wp2_with fail
  refine (rof_any _ B (by omega) W3 (RgAt.below HB.out b3 _ b3.size)).mono ?_
  rintro e W4 ⟨vy, Y, rfl, hyr, hym, hyl, hown, hb4⟩
  have b4 : Below w.heap.size w W4 := b3.trans (hb4.mono b3.size)
  replace H_vx : Hid (RgAt W4.heap.size W4 vx X) := RgAt.below H_vx.out hb4 _ hb4.size
  have H_vy : Hid (RgAt W4.heap.size W4 vy Y) := rg_of_own hown
  clear hown
  have HYR : Hid (RS.right Y = true) := hyr
  have HYM : Hid (∀ p, RS.mem Y p ↔ 0 ≤ p ∧ p ≤ 1114111 ∧ RS.has B p = true) := hym
  have hyl' : Y.length ≤ 62 := by omega
  clear hyr hym hyl
  clear hb4
  go_wp2_with (at_builtin; refine wpList_copy (by rfl) _ _ rfl W4.heap.size _ _ A rfl rfl (World.ownsRow_lit W4 #[] 0 (Nat.le_refl _) (by decide) rfl) (RgAt.below HA.out (b4.alloc b4.size _) _ (by simp; exact b4.size |> fun h => by omega)) (by simp) (by omega) ?_)
  intro vc W5 hown hbc
  have hb5 : Below W4.heap.size W4 W5 := ((Below.refl _ W4).alloc (Nat.le_refl _) _).trans hbc
  have b5 : Below w.heap.size w W5 := b4.trans (hb5.mono b4.size)
  have hcopy : Hid (RgAt W5.heap.size W5 vc A) := rg_of_own hown
  clear hown hbc
  replace H_vx : Hid (RgAt W5.heap.size W5 vx X) := RgAt.below H_vx.out hb5 _ hb5.size
  replace H_vy : Hid (RgAt W5.heap.size W5 vy Y) := RgAt.below H_vy.out hb5 _ hb5.size
  clear hb5
  go_wp2_with fail
  refine (of_any vc A (by omega) W5 hcopy.out).mono ?_
  rintro e W6 ⟨v1, S1, rfl, hof, hl1, hown, hb6⟩
  have b6 : Below w.heap.size w W6 := b5.trans (hb6.mono b5.size)
  replace H_vx : Hid (RgAt W6.heap.size W6 vx X) := RgAt.below H_vx.out hb6 _ hb6.size
  replace H_vy : Hid (RgAt W6.heap.size W6 vy Y) := RgAt.below H_vy.out hb6 _ hb6.size
  obtain rfl := RS.eq_of HXR.out HXM.out hof
  have H_v1 : Hid (RgAt W6.heap.size W6 v1 S1) := rg_of_own hown
  clear hown hof hl1 hcopy
  clear hb6
  go_wp2_with fail
  refine (sameR_any v1 vx S1 (by omega) W6 H_v1.out H_vx.out).mono ?_
  rintro e W7 ⟨rfl, hb7⟩
  have b7 : Below w.heap.size w W7 := b6.trans (hb7.mono b6.size)
  clear H_v1
  replace H_vx : Hid (RgAt W7.heap.size W7 vx S1) := RgAt.below H_vx.out hb7 _ hb7.size
  replace H_vy : Hid (RgAt W7.heap.size W7 vy Y) := RgAt.below H_vy.out hb7 _ hb7.size
  clear hb7
  go_wp2_with (at_builtin; refine wpList_copy (by rfl) _ _ rfl W7.heap.size _ _ B rfl rfl (World.ownsRow_lit W7 #[] 0 (Nat.le_refl _) (by decide) rfl) (RgAt.below HB.out (b7.alloc b7.size _) _ (by simp; exact b7.size |> fun h => by omega)) (by simp) (by omega) ?_)
  intro vc W8 hown hbc
  have hb8 : Below W7.heap.size W7 W8 := ((Below.refl _ W7).alloc (Nat.le_refl _) _).trans hbc
  have b8 : Below w.heap.size w W8 := b7.trans (hb8.mono b7.size)
  have hcopy : Hid (RgAt W8.heap.size W8 vc B) := rg_of_own hown
  clear hown hbc
  replace H_vx : Hid (RgAt W8.heap.size W8 vx S1) := RgAt.below H_vx.out hb8 _ hb8.size
  replace H_vy : Hid (RgAt W8.heap.size W8 vy Y) := RgAt.below H_vy.out hb8 _ hb8.size
  clear hb8
  go_wp2_with fail
  refine (of_any vc B (by omega) W8 hcopy.out).mono ?_
  rintro e W9 ⟨v2, S2, rfl, hof, hl2, hown, hb9⟩
  have b9 : Below w.heap.size w W9 := b8.trans (hb9.mono b8.size)
  replace H_vx : Hid (RgAt W9.heap.size W9 vx S1) := RgAt.below H_vx.out hb9 _ hb9.size
  replace H_vy : Hid (RgAt W9.heap.size W9 vy Y) := RgAt.below H_vy.out hb9 _ hb9.size
  obtain rfl := RS.eq_of HYR.out HYM.out hof
  have H_v2 : Hid (RgAt W9.heap.size W9 v2 S2) := rg_of_own hown
  clear hown hof hl2 hcopy
  clear hb9
  go_wp2_with fail
  refine (sameR_any v2 vy S2 (by omega) W9 H_v2.out H_vy.out).mono ?_
  rintro e W10 ⟨rfl, hb10⟩
  have b10 : Below w.heap.size w W10 := b9.trans (hb10.mono b9.size)
  clear H_v2
  replace H_vx : Hid (RgAt W10.heap.size W10 vx S1) := RgAt.below H_vx.out hb10 _ hb10.size
  replace H_vy : Hid (RgAt W10.heap.size W10 vy S2) := RgAt.below H_vy.out hb10 _ hb10.size
  clear hb10
  obtain ⟨hp, hhp⟩ : ∃ hp, hp = RS.has S1 p := ⟨_, rfl⟩
  have hH1 := has_any vx S1 p (by omega) HXR.out W10 H_vx.out
  have hH2 := fun (W : World) (h : RgAt W.heap.size W vx S1) => rhas_any vx S1 p (by omega) W h
  simp only [← hhp] at hH1 hH2
  have HH1 : Hid (Calls Tryz.prog 9 #[vx, .int .i64 p] W10 fun e w' => e = .returned (.bool hp) ∧ Below W10.heap.size W10 w') := hH1
  have HH2 : Hid (∀ W : World, RgAt W.heap.size W vx S1 → Calls Tryz.prog 10 #[vx, .int .i64 p] W fun e w' => e = .returned (.bool hp) ∧ Below W.heap.size W w') := hH2
  clear hhp hH1 hH2
  go_wp2_with fail
  refine (HH1.out).mono ?_
  rintro e W11 ⟨rfl, hb11⟩
  have b11 : Below w.heap.size w W11 := b10.trans (hb11.mono b10.size)
  replace H_vx : Hid (RgAt W11.heap.size W11 vx S1) := RgAt.below H_vx.out hb11 _ hb11.size
  replace H_vy : Hid (RgAt W11.heap.size W11 vy S2) := RgAt.below H_vy.out hb11 _ hb11.size
  clear HH1
  clear hb11
  go_wp2_with fail
  refine (HH2.out W11 H_vx.out).mono ?_
  rintro e W12 ⟨rfl, hb12⟩
  have b12 : Below w.heap.size w W12 := b11.trans (hb12.mono b11.size)
  replace H_vx : Hid (RgAt W12.heap.size W12 vx S1) := RgAt.below H_vx.out hb12 _ hb12.size
  replace H_vy : Hid (RgAt W12.heap.size W12 vy S2) := RgAt.below H_vy.out hb12 _ hb12.size
  clear HH2
  clear hb12
  go_wp2_with fail
  refine (or_any vx vy S1 S2 (by omega) (by omega) W12 H_vx.out H_vy.out).mono ?_
  rintro e W13 ⟨vo, O, rfl, hof, hol, hown, hb13⟩
  have b13 : Below w.heap.size w W13 := b12.trans (hb13.mono b12.size)
  replace H_vx : Hid (RgAt W13.heap.size W13 vx S1) := RgAt.below H_vx.out hb13 _ hb13.size
  replace H_vy : Hid (RgAt W13.heap.size W13 vy S2) := RgAt.below H_vy.out hb13 _ hb13.size
  have H_vo : Hid (RgAt W13.heap.size W13 vo O) := rg_of_own hown
  have HOF : Hid (RS.IsOf (S1 ++ S2) O) := hof
  have hol' : O.length ≤ 200 := by omega
  clear hown hof hol
  clear hb13
  go_wp2_with fail
  refine (ror_any vx vy S1 S2 (by omega) (by omega) W13 H_vx.out H_vy.out).mono ?_
  rintro e W14 ⟨vr, R, rfl, hrr, hrm, hrl, hown, hb14⟩
  have b14 : Below w.heap.size w W14 := b13.trans (hb14.mono b13.size)
  replace H_vx : Hid (RgAt W14.heap.size W14 vx S1) := RgAt.below H_vx.out hb14 _ hb14.size
  replace H_vy : Hid (RgAt W14.heap.size W14 vy S2) := RgAt.below H_vy.out hb14 _ hb14.size
  replace H_vo : Hid (RgAt W14.heap.size W14 vo O) := RgAt.below H_vo.out hb14 _ hb14.size
  obtain rfl := RS.eq_or HXR.out HYR.out HOF.out hrr hrm
  have H_vr : Hid (RgAt W14.heap.size W14 vr O) := rg_of_own hown
  clear hown hrr hrm hrl HOF
  clear hb14
  go_wp2_with fail
  refine (sameR_any vo vr O (by omega) W14 H_vo.out H_vr.out).mono ?_
  rintro e W15 ⟨rfl, hb15⟩
  have b15 : Below w.heap.size w W15 := b14.trans (hb15.mono b14.size)
  clear H_vo
  clear H_vr
  replace H_vx : Hid (RgAt W15.heap.size W15 vx S1) := RgAt.below H_vx.out hb15 _ hb15.size
  replace H_vy : Hid (RgAt W15.heap.size W15 vy S2) := RgAt.below H_vy.out hb15 _ hb15.size
  clear hol'
  clear hb15
  go_wp2_with fail
  refine (and_any vx vy S1 S2 (by omega) (by omega) W15 H_vx.out H_vy.out).mono ?_
  rintro e W16 ⟨vo, rfl, hown, hb16⟩
  have b16 : Below w.heap.size w W16 := b15.trans (hb16.mono b15.size)
  replace H_vx : Hid (RgAt W16.heap.size W16 vx S1) := RgAt.below H_vx.out hb16 _ hb16.size
  replace H_vy : Hid (RgAt W16.heap.size W16 vy S2) := RgAt.below H_vy.out hb16 _ hb16.size
  have H_vo : Hid (RgAt W16.heap.size W16 vo (RS.andL S1 S2)) := rg_of_own hown
  clear hown
  clear hb16
  go_wp2_with fail
  refine (rand_any vx vy S1 S2 (by omega) (by omega) W16 H_vx.out H_vy.out).mono ?_
  rintro e W17 ⟨vr, R, rfl, hrr, hrm, hrl, hown, hb17⟩
  have b17 : Below w.heap.size w W17 := b16.trans (hb17.mono b16.size)
  replace H_vx : Hid (RgAt W17.heap.size W17 vx S1) := RgAt.below H_vx.out hb17 _ hb17.size
  replace H_vy : Hid (RgAt W17.heap.size W17 vy S2) := RgAt.below H_vy.out hb17 _ hb17.size
  replace H_vo : Hid (RgAt W17.heap.size W17 vo (RS.andL S1 S2)) := RgAt.below H_vo.out hb17 _ hb17.size
  have hre := RS.eq_and HXR.out HYR.out hrr hrm
  rw [hre] at H_vo
  have hrl' : R.length ≤ 1000 := by omega
  have H_vr : Hid (RgAt W17.heap.size W17 vr R) := rg_of_own hown
  clear hown hrr hrm hrl hre
  clear hb17
  go_wp2_with fail
  refine (sameR_any vo vr R (by omega) W17 H_vo.out H_vr.out).mono ?_
  rintro e W18 ⟨rfl, hb18⟩
  have b18 : Below w.heap.size w W18 := b17.trans (hb18.mono b17.size)
  clear H_vo
  clear H_vr
  replace H_vx : Hid (RgAt W18.heap.size W18 vx S1) := RgAt.below H_vx.out hb18 _ hb18.size
  replace H_vy : Hid (RgAt W18.heap.size W18 vy S2) := RgAt.below H_vy.out hb18 _ hb18.size
  clear hrl'
  clear hb18
  go_wp2_with fail
  refine (less_any vx vy S1 S2 (by omega) (by omega) HYR.out W18 H_vx.out H_vy.out).mono ?_
  rintro e W19 ⟨vo, rfl, hown, hb19⟩
  have b19 : Below w.heap.size w W19 := b18.trans (hb19.mono b18.size)
  replace H_vx : Hid (RgAt W19.heap.size W19 vx S1) := RgAt.below H_vx.out hb19 _ hb19.size
  replace H_vy : Hid (RgAt W19.heap.size W19 vy S2) := RgAt.below H_vy.out hb19 _ hb19.size
  have H_vo : Hid (RgAt W19.heap.size W19 vo (RS.lessL S1 S2)) := rg_of_own hown
  clear hown
  clear hb19
  go_wp2_with fail
  refine (rless_any vx vy S1 S2 (by omega) (by omega) W19 H_vx.out H_vy.out).mono ?_
  rintro e W20 ⟨vr, R, rfl, hrr, hrm, hrl, hown, hb20⟩
  have b20 : Below w.heap.size w W20 := b19.trans (hb20.mono b19.size)
  replace H_vx : Hid (RgAt W20.heap.size W20 vx S1) := RgAt.below H_vx.out hb20 _ hb20.size
  replace H_vy : Hid (RgAt W20.heap.size W20 vy S2) := RgAt.below H_vy.out hb20 _ hb20.size
  replace H_vo : Hid (RgAt W20.heap.size W20 vo (RS.lessL S1 S2)) := RgAt.below H_vo.out hb20 _ hb20.size
  have hre := RS.eq_less HXR.out HYR.out hrr hrm
  rw [hre] at H_vo
  have hrl' : R.length ≤ 1000 := by omega
  have H_vr : Hid (RgAt W20.heap.size W20 vr R) := rg_of_own hown
  clear hown hrr hrm hrl hre
  clear hb20
  go_wp2_with fail
  refine (sameR_any vo vr R (by omega) W20 H_vo.out H_vr.out).mono ?_
  rintro e W21 ⟨rfl, hb21⟩
  have b21 : Below w.heap.size w W21 := b20.trans (hb21.mono b20.size)
  clear H_vo
  clear H_vr
  replace H_vx : Hid (RgAt W21.heap.size W21 vx S1) := RgAt.below H_vx.out hb21 _ hb21.size
  replace H_vy : Hid (RgAt W21.heap.size W21 vy S2) := RgAt.below H_vy.out hb21 _ hb21.size
  clear hrl'
  clear hb21
  go_wp2_with fail
  refine (not_any vx S1 (by omega) W21 H_vx.out HXR.out).mono ?_
  rintro e W22 ⟨vo, rfl, hown, hb22⟩
  have b22 : Below w.heap.size w W22 := b21.trans (hb22.mono b21.size)
  replace H_vx : Hid (RgAt W22.heap.size W22 vx S1) := RgAt.below H_vx.out hb22 _ hb22.size
  replace H_vy : Hid (RgAt W22.heap.size W22 vy S2) := RgAt.below H_vy.out hb22 _ hb22.size
  have H_vo : Hid (RgAt W22.heap.size W22 vo (RS.notL S1)) := rg_of_own hown
  clear hown
  clear hb22
  go_wp2_with fail
  refine (rnot_any vx S1 (by omega) W22 H_vx.out).mono ?_
  rintro e W23 ⟨vr, R, rfl, hrr, hrm, hrl, hown, hb23⟩
  have b23 : Below w.heap.size w W23 := b22.trans (hb23.mono b22.size)
  replace H_vx : Hid (RgAt W23.heap.size W23 vx S1) := RgAt.below H_vx.out hb23 _ hb23.size
  replace H_vy : Hid (RgAt W23.heap.size W23 vy S2) := RgAt.below H_vy.out hb23 _ hb23.size
  replace H_vo : Hid (RgAt W23.heap.size W23 vo (RS.notL S1)) := RgAt.below H_vo.out hb23 _ hb23.size
  have hre := RS.eq_not HXR.out hrr hrm
  rw [hre] at H_vo
  have hrl' : R.length ≤ 1000 := by omega
  have H_vr : Hid (RgAt W23.heap.size W23 vr R) := rg_of_own hown
  clear hown hrr hrm hrl hre
  clear hb23
  go_wp2_with fail
  refine (sameR_any vo vr R (by omega) W23 H_vo.out H_vr.out).mono ?_
  rintro e W24 ⟨rfl, hb24⟩
  have b24 : Below w.heap.size w W24 := b23.trans (hb24.mono b23.size)
  clear H_vo
  clear H_vr
  replace H_vx : Hid (RgAt W24.heap.size W24 vx S1) := RgAt.below H_vx.out hb24 _ hb24.size
  replace H_vy : Hid (RgAt W24.heap.size W24 vy S2) := RgAt.below H_vy.out hb24 _ hb24.size
  clear hrl'
  clear hb24
  clear H_vy HYR HYM HXM hyl'
  obtain ⟨T, hTe⟩ : ∃ T, T = bytesOf (RS.setText S1) := ⟨_, rfl⟩
  have hP1 := fun (W : World) (h : KT W) (h' : RgAt W.heap.size W vx S1) => print_any vx S1 (by omega) HXR.out W h.1 h.2.2.2.2.2 h'
  have hP2 := fun (W : World) (h : KT W) (h' : RgAt W.heap.size W vx S1) => rtext_any vx S1 (by omega) HXR.out W h.1 h.2.2.2.2.2 h'
  simp only [← hTe] at hP1 hP2
  have hself := toList_self T
  have HP1 : Hid (∀ W : World, KT W → RgAt W.heap.size W vx S1 → Calls Tryz.prog 22 #[vx] W fun e w' => e = .returned (.string T) ∧ Below W.heap.size W w') := hP1
  have HP2 : Hid (∀ W : World, KT W → RgAt W.heap.size W vx S1 → Calls Tryz.prog 23 #[vx] W fun e w' => e = .returned (.string T) ∧ Below W.heap.size W w') := hP2
  clear hTe hP1 hP2 HXR
  by_cases hex : ∃ Z, RS.right Z = true ∧ bytesOf (RS.setText Z) = s
  · obtain ⟨Z, hzr, hzt⟩ := hex
    have HZT : Hid (bytesOf (RS.setText Z) = s) := hzt
    have HZR : Hid (RS.right Z = true) := hzr
    have hzl : Z.length ≤ 300 := by
      have h1 : (RS.setText Z).length = s.size := by rw [← hzt, bytesOf_len]
      have h2 := midText_ge Z 0
      have h3 : (RS.setText Z).length = (RS.midText 0 Z).length + 2 := by simp [RS.setText]
      omega
    have hQ2 := fun (W : World) (h : KT W) => parse_text Z (by omega) HZR.out W h.2.1 h.2.2.1 h.1 h.2.2.2.2.2
    simp only [hzt] at hQ2
    have HQ2 : Hid (∀ W : World, KT W → Calls Tryz.prog 20 #[.string s] W fun e w' => (∃ v, e = .returned (.tuple #[v, .nilIface]) ∧ w'.ownsRow W.heap.size 42 2 v Z.length (flat2 Z)) ∧ Below W.heap.size W w') := hQ2
    clear hzr hzt hQ2
    go_wp2_with fail
    refine (pset_text Z HZR.out s HZT.out.symm hs W24 (K0.out.below b24).2.1 (K0.out.below b24).2.2.1 (K0.out.below b24).1 (K0.out.below b24).2.2.2.1 (K0.out.below b24).2.2.2.2.2).mono ?_
    rintro e W25 ⟨⟨vz, rfl, hown⟩, hb25⟩
    have b25 : Below w.heap.size w W25 := b24.trans (hb25.mono b24.size)
    replace H_vx : Hid (RgAt W25.heap.size W25 vx S1) := RgAt.below H_vx.out hb25 _ hb25.size
    have H_vz : Hid (RgAt W25.heap.size W25 vz Z) := rg_of_own hown
    clear hown
    clear hb25
    go_wp2_with fail
    refine (HQ2.out W25 (K0.out.below b25)).mono ?_
    rintro e W26 ⟨⟨vq, rfl, hown⟩, hb26⟩
    have b26 : Below w.heap.size w W26 := b25.trans (hb26.mono b25.size)
    replace H_vx : Hid (RgAt W26.heap.size W26 vx S1) := RgAt.below H_vx.out hb26 _ hb26.size
    replace H_vz : Hid (RgAt W26.heap.size W26 vz Z) := RgAt.below H_vz.out hb26 _ hb26.size
    have H_vq : Hid (RgAt W26.heap.size W26 vq Z) := rg_of_own hown
    clear hown
    clear hb26
    go_wp2_with fail
    refine (bare_nil W26).mono ?_
    rintro e W27 ⟨rfl, hb27⟩
    have b27 : Below w.heap.size w W27 := b26.trans (hb27.mono b26.size)
    replace H_vx : Hid (RgAt W27.heap.size W27 vx S1) := RgAt.below H_vx.out hb27 _ hb27.size
    replace H_vz : Hid (RgAt W27.heap.size W27 vz Z) := RgAt.below H_vz.out hb27 _ hb27.size
    replace H_vq : Hid (RgAt W27.heap.size W27 vq Z) := RgAt.below H_vq.out hb27 _ hb27.size
    clear hb27
    go_wp2_with fail
    refine (sameR_any vq vz Z (by omega) W27 H_vq.out H_vz.out).mono ?_
    rintro e W28 ⟨rfl, hb28⟩
    have b28 : Below w.heap.size w W28 := b27.trans (hb28.mono b27.size)
    clear H_vz
    clear H_vq
    replace H_vx : Hid (RgAt W28.heap.size W28 vx S1) := RgAt.below H_vx.out hb28 _ hb28.size
    clear hb28
    go_wp2_with fail
    refine (HP1.out W28 (K0.out.below b28) H_vx.out).mono ?_
    rintro e W29 ⟨rfl, hb29⟩
    have b29 : Below w.heap.size w W29 := b28.trans (hb29.mono b28.size)
    replace H_vx : Hid (RgAt W29.heap.size W29 vx S1) := RgAt.below H_vx.out hb29 _ hb29.size
    clear hb29
    go_wp2_with fail
    refine (HP2.out W29 (K0.out.below b29) H_vx.out).mono ?_
    rintro e W30 ⟨rfl, hb30⟩
    have b30 : Below w.heap.size w W30 := b29.trans (hb30.mono b29.size)
    replace H_vx : Hid (RgAt W30.heap.size W30 vx S1) := RgAt.below H_vx.out hb30 _ hb30.size
    clear hb30
    go_wp2_with fail
    go_ret
    exact ⟨rfl, b30⟩
  · have HNO : Hid (∀ Z, RS.right Z = true → bytesOf (RS.setText Z) ≠ s) := fun Z h1 h2 => hex ⟨Z, h1, h2⟩
    have HQ2 : Hid (∀ W : World, KT W → Calls Tryz.prog 20 #[.string s] W fun e w' => e = .returned (.tuple #[.slice none 0 0, .iface 31 (.int .i64 3)]) ∧ Below W.heap.size W w') := fun W h => by
      refine (parse_all s (by omega) W h.2.1 h.2.2.1 h.1 h.2.2.2.2.2).mono ?_
      rintro e W' ⟨hp | ⟨v, out, _, _, h3, h4, _⟩, hb⟩
      · exact ⟨hp, hb⟩
      · exact absurd h4 (HNO.out out h3)
    clear hex
    go_wp2_with fail
    refine (pset_no s hs W24 (K0.out.below b24).2.1 (K0.out.below b24).2.2.1 (K0.out.below b24).1 (K0.out.below b24).2.2.2.1 (K0.out.below b24).2.2.2.2.2 HNO.out).mono ?_
    rintro e W25 ⟨rfl, hb25⟩
    have b25 : Below w.heap.size w W25 := b24.trans (hb25.mono b24.size)
    replace H_vx : Hid (RgAt W25.heap.size W25 vx S1) := RgAt.below H_vx.out hb25 _ hb25.size
    clear hb25
    go_wp2_with fail
    refine (HQ2.out W25 (K0.out.below b25)).mono ?_
    rintro e W26 ⟨rfl, hb26⟩
    have b26 : Below w.heap.size w W26 := b25.trans (hb26.mono b25.size)
    replace H_vx : Hid (RgAt W26.heap.size W26 vx S1) := RgAt.below H_vx.out hb26 _ hb26.size
    clear hb26
    go_wp2_with fail
    refine (bare_errno 3 W26 (K0.out.below b26).2.2.2.2.1).mono ?_
    rintro e W27 ⟨rfl, hb27⟩
    have b27 : Below w.heap.size w W27 := b26.trans (hb27.mono b26.size)
    replace H_vx : Hid (RgAt W27.heap.size W27 vx S1) := RgAt.below H_vx.out hb27 _ hb27.size
    clear hb27
    go_wp2_with fail
    refine (sameR_nil none none 0 0 W27).mono ?_
    rintro e W28 ⟨rfl, hw⟩
    obtain rfl := hw.symm
    go_wp2_with fail
    refine (HP1.out W27 (K0.out.below b27) H_vx.out).mono ?_
    rintro e W28 ⟨rfl, hb28⟩
    have b28 : Below w.heap.size w W28 := b27.trans (hb28.mono b27.size)
    replace H_vx : Hid (RgAt W28.heap.size W28 vx S1) := RgAt.below H_vx.out hb28 _ hb28.size
    clear hb28
    go_wp2_with fail
    refine (HP2.out W28 (K0.out.below b28) H_vx.out).mono ?_
    rintro e W29 ⟨rfl, hb29⟩
    have b29 : Below w.heap.size w W29 := b28.trans (hb29.mono b28.size)
    replace H_vx : Hid (RgAt W29.heap.size W29 vx S1) := RgAt.below H_vx.out hb29 _ hb29.size
    clear hb29
    go_wp2_with fail
    go_ret
    exact ⟨rfl, b29⟩

end Go.Proofs.YtefcjoomongcmaaGreatDoor
