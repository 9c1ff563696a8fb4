/- MeanOften's same. -/
import Derived.Test.YtjbdlihlcoldlaaGreatDoorG50
namespace Go.Proofs.YtjbdlihlcoldlaaGreatDoor.M
open Go.RowKit Go.Shelf Go.Proofs.YtjbdlihlcoldlaaGreatDoor.Q

/-- What same holds of what it captured. -/
def SB (w : World) (cb eb kb mb ub pb xe : Nat) (back : Bool) (mv uv : Value) (i : Nat) (W : World) : Prop :=
  W.cell? ⟨cb, 0, none⟩ = some (.func (.func 25) #[] #[]) ∧ W.cell? ⟨eb, 0, none⟩ = some (.pointer (some ⟨xe, 0, none⟩)) ∧ W.cell? ⟨kb, 0, none⟩ = some (.bool back) ∧ W.cell? ⟨mb, 0, none⟩ = some mv ∧ W.cell? ⟨ub, 0, none⟩ = some uv ∧ W.cell? ⟨pb, 0, none⟩ = some (.int .i64 i) ∧ Below w.heap.size w W

theorem SB.on {w : World} {cb eb kb mb ub pb xe : Nat} {back : Bool} {mv uv : Value} {i : Nat} {W W' : World} (h : SB w cb eb kb mb ub pb xe back mv uv i W) (hb : Below W.heap.size W W') : SB w cb eb kb mb ub pb xe back mv uv i W' := by
  obtain ⟨h1, h2, h3, h4, h5, h6, h7⟩ := h
  exact ⟨(hb.cell (by exact lt_cell h1)).trans h1, (hb.cell (by exact lt_cell h2)).trans h2, (hb.cell (by exact lt_cell h3)).trans h3, (hb.cell (by exact lt_cell h4)).trans h4, (hb.cell (by exact lt_cell h5)).trans h5, (hb.cell (by exact lt_cell h6)).trans h6, h7.trans (hb.mono h7.size)⟩

theorem SB.open_ {w : World} {cb eb kb mb ub pb xe : Nat} {back : Bool} {mv uv : Value} {i : Nat} {W : World} (h : SB w cb eb kb mb ub pb xe back mv uv i W) :
    W.cell? ⟨cb, 0, none⟩ = some (.func (.func 25) #[] #[]) ∧ W.cell? ⟨eb, 0, none⟩ = some (.pointer (some ⟨xe, 0, none⟩)) ∧ W.cell? ⟨kb, 0, none⟩ = some (.bool back) ∧ W.cell? ⟨mb, 0, none⟩ = some mv ∧ W.cell? ⟨ub, 0, none⟩ = some uv ∧ W.cell? ⟨pb, 0, none⟩ = some (.int .i64 i) ∧ Below w.heap.size w W := h

/-- A pattern that may be asked. -/
def Good (p : RP.Pt) : Prop := CK.FitP p false ∧ ShortP p

theorem good_end (back : Bool) {a : RP.Pt} (h : Good a) : Good (endP back a) := by
  cases back with
  | true => exact ⟨⟨rfl, rfl, rfl, rfl, h.1, rfl⟩, by simp [items], trivial, h.2, trivial⟩
  | false => exact ⟨⟨rfl, rfl, h.1, rfl, rfl, rfl⟩, by simp [items], h.2, trivial, trivial⟩

theorem two_new (W : World) (A B : Obj) : ((W.alloc A).alloc B).heap[W.heap.size + 1]? = some B := by
  have := heap_alloc_new (W.alloc A) B
  rw [show (W.alloc A).heap.size = W.heap.size + 1 by simp] at this
  exact this
theorem two_old (W : World) (A B : Obj) : ((W.alloc A).alloc B).heap[W.heap.size]? = some A := by
  rw [heap_alloc_old _ _ (by simp)]
  exact heap_alloc_new _ _

theorem enter25 (args : Array Value) (w : World) : (callFunc 25 args).run Tryz.prog w = .ok (.enter 25 args) w := by kernel_rfl

/-- Does the pattern stand there? -/
theorem asks (T : CK.Tab) (pts : List Int) (back : Bool) (i pb : Nat) (p : RP.Pt) (mv uv : Value) (W : World) (hM : MT W) (hn : pts.length ≤ 63) (hi : i ≤ pts.length) (hu : UnAt W uv pts) (hm : NmAt W.heap.size W mv T) (hp : Pat W pb p) (hg : Good p) :
    Calls Tryz.prog 28 #[.pointer (some ⟨pb, 0, none⟩), mv, uv, .int .i64 i, .bool back] W fun e w' => e = .returned (.bool ((standQ T pts back p).testBit i)) ∧ Below W.heap.size W w' :=
  stands_any T pts back i pb p mv uv W hM.2.2.2.2 hM.2.2.2.1 hn hi hu hm hp.1 hg.1 hg.2

set_option maxHeartbeats 8000000 in
set_option maxRecDepth 100000 in
theorem same_false (T : CK.Tab) (pts : List Int) (i : Nat) (a b : RP.Pt) (ab bb xe cb eb kb mb ub pb : Nat) (mv uv : Value) (W : World) (hM : MT W) (hn : pts.length ≤ 63) (hi : i ≤ pts.length) (hu : UnAt W uv pts) (hm : NmAt W.heap.size W mv T)
    (hS : SB W cb eb kb mb ub pb xe false mv uv i W) (he : Pat W xe .edge) (ha : Pat W ab a) (hb : Pat W bb b) (ga : Good a) (gb : Good b) (hal : Alike T pts false a b) :
    Calls Tryz.prog 27 #[.pointer (some ⟨ab, 0, none⟩), .pointer (some ⟨bb, 0, none⟩), .pointer (some ⟨cb, 0, none⟩), .pointer (some ⟨eb, 0, none⟩), .pointer (some ⟨kb, 0, none⟩), .pointer (some ⟨mb, 0, none⟩), .pointer (some ⟨ub, 0, none⟩), .pointer (some ⟨pb, 0, none⟩)] W fun e W' => e = .returned (.bool true) ∧ Below W.heap.size W W' := by
  have HALL : Hid (∀ V, Below W.heap.size W V → MT V ∧ UnAt V uv pts ∧ NmAt V.heap.size V mv T ∧ Pat V xe .edge ∧ Pat V ab a ∧ Pat V bb b) := fun V hV => ⟨hM.on hV, hu.below hV, hm.below hV _ hV.size, he.on hV, ha.on hV, hb.on hV⟩
  have HS : Hid (SB W cb eb kb mb ub pb xe false mv uv i W) := hS
  have HG : Hid (Good a ∧ Good b ∧ pts.length ≤ 63 ∧ i ≤ pts.length) := ⟨ga, gb, hn, hi⟩
  have HAL : Hid ((standQ T pts false a = standQ T pts false b) ∧ standQ T pts false (endP false a) = standQ T pts false (endP false b)) := ⟨hal.stand hn, hal.end_.stand hn⟩
  have eg := enter25
  obtain ⟨mm, _, _, rfl, -⟩ := hm
  obtain ⟨uo, uc, rfl, -, -, -⟩ := hu
  obtain ⟨m, hmm⟩ : ∃ m, m = pts.length := ⟨_, rfl⟩
  rw [← hmm] at HALL HS
  clear hM hn hi hS he ha hb ga gb hal hmm
  go_enter Tryz.func27, Tryz.ntmps27
  go_upto_region 1 with fail
  have hS0 : SB W cb eb kb mb ub pb xe false (.map (some mm)) (.slice uo m uc) i W.drew := HS.out.on (below_drewN (Below.refl _ _) 1)
  have HC11 : Hid (∀ V g, SB W cb eb kb mb ub pb xe false (.map (some mm)) (.slice uo m uc) i V → V.heap[g]? = some (.cells #[.pointer (some ⟨ab, 0, none⟩), .pointer (some ⟨xe, 0, none⟩)] 35 (0, 0)) → Calls Tryz.prog 25 #[.slice (some ⟨g, 0, none⟩) 2 2] V fun e V' => (∃ z, e = .returned (.pointer (some ⟨z, 0, none⟩)) ∧ Pat V' z (.cat (.cons a (.cons .edge .nil)))) ∧ SB W cb eb kb mb ub pb xe false (.map (some mm)) (.slice uo m uc) i V' ∧ Below V.heap.size V V') := fun V g hV hg => by
    refine (cat_two hg (HALL.out _ hV.2.2.2.2.2.2).2.2.2.2.1 (HALL.out _ hV.2.2.2.2.2.2).2.2.2.1).mono ?_
    rintro e V' ⟨h1, h2⟩
    exact ⟨h1, hV.on h2, h2⟩
  have HC12 : Hid (∀ V g, SB W cb eb kb mb ub pb xe false (.map (some mm)) (.slice uo m uc) i V → V.heap[g]? = some (.cells #[.pointer (some ⟨bb, 0, none⟩), .pointer (some ⟨xe, 0, none⟩)] 35 (0, 0)) → Calls Tryz.prog 25 #[.slice (some ⟨g, 0, none⟩) 2 2] V fun e V' => (∃ z, e = .returned (.pointer (some ⟨z, 0, none⟩)) ∧ Pat V' z (.cat (.cons b (.cons .edge .nil)))) ∧ SB W cb eb kb mb ub pb xe false (.map (some mm)) (.slice uo m uc) i V' ∧ Below V.heap.size V V') := fun V g hV hg => by
    refine (cat_two hg (HALL.out _ hV.2.2.2.2.2.2).2.2.2.2.2 (HALL.out _ hV.2.2.2.2.2.2).2.2.2.1).mono ?_
    rintro e V' ⟨h1, h2⟩
    exact ⟨h1, hV.on h2, h2⟩
  go_region_held3 (fun V => V.cell? ⟨cb, 0, none⟩ = some (.func (.func 25) #[] #[]) ∧ V.cell? ⟨eb, 0, none⟩ = some (.pointer (some ⟨xe, 0, none⟩)) ∧ V.cell? ⟨kb, 0, none⟩ = some (.bool false) ∧ V.cell? ⟨mb, 0, none⟩ = some (.map (some mm)) ∧ V.cell? ⟨ub, 0, none⟩ = some (.slice uo m uc) ∧ V.cell? ⟨pb, 0, none⟩ = some (.int .i64 i) ∧ Below W.heap.size W V)
    (first | exact SB.open_ (by assumption) | exact SB.open_ (SB.on (by assumption) (below_alloc1 _ _)))
    (first
      | (have hmark := hp11; clear hmark; go_at_call 25; refine (HC12.out _ _ ?_ ?_).mono ?_; assumption; (first | exact heap_alloc_new _ _ | exact two_new _ _ _ | exact two_old _ _ _ | exact (hb11.block _ (by first | (simp; done) | (simp; omega))).trans (heap_alloc_new _ _) | exact (hb11.block _ (by first | (simp; done) | (simp; omega))).trans (two_new _ _ _) | exact (hb11.block _ (by first | (simp; done) | (simp; omega))).trans (two_old _ _ _)); rintro e V12 ⟨⟨p12, rfl, hp12⟩, hS12, hb12⟩)
      | (go_at_call 25; refine (HC11.out _ _ ?_ ?_).mono ?_; assumption; (first | exact heap_alloc_new _ _ | exact two_new _ _ _ | exact two_old _ _ _); rintro e V11 ⟨⟨p11, rfl, hp11⟩, hS11, hb11⟩))
  all_goals
    have hp11' : Pat V12 p11 (endP false a) := by first | exact hp11.on hb12 | exact (hp11.on (below_alloc1 _ _)).on hb12
    have HP : Hid (Pat V12 p11 (endP false a) ∧ Pat V12 p12 (endP false b)) := ⟨hp11', hp12⟩
    have HB12 : Hid (Below W.heap.size W V12) := hS12.2.2.2.2.2.2
    have hk12 := hS12.2.2.1
    clear hp11 hp11' hp12 hb12 hb11 hS11 hS0
    go_upto_region 4 with fail
    have hS4 : SB W cb eb kb mb ub pb xe false (.map (some mm)) (.slice uo m uc) i V12.drew := hS12.on (below_drewN (Below.refl _ _) 1)
    have HA : Hid (∀ V x p, SB W cb eb kb mb ub pb xe false (.map (some mm)) (.slice uo m uc) i V → Pat V x p → Good p → Calls Tryz.prog 28 #[.pointer (some ⟨x, 0, none⟩), .map (some mm), .slice uo m uc, .int .i64 i, .bool false] V fun e V' => e = .returned (.bool ((standQ T pts false p).testBit i)) ∧ SB W cb eb kb mb ub pb xe false (.map (some mm)) (.slice uo m uc) i V' ∧ Below V.heap.size V V') := fun V x p hV hp hg => by
      obtain ⟨k1, k2, k3, -, -, -⟩ := HALL.out V hV.2.2.2.2.2.2
      refine (asks T pts false i x p _ _ V k1 HG.out.2.2.1 HG.out.2.2.2 k2 k3 hp hg).mono ?_
      rintro e V' ⟨h1, h2⟩
      exact ⟨h1, hV.on h2, h2⟩
    have hPA : ∀ V, Below V12.heap.size V12 V → Pat V ab a ∧ Pat V bb b ∧ Pat V p11 (endP false a) ∧ Pat V p12 (endP false b) := fun V hV =>
      ⟨(HALL.out V (HB12.out.trans (hV.mono HB12.out.size))).2.2.2.2.1, (HALL.out V (HB12.out.trans (hV.mono HB12.out.size))).2.2.2.2.2, HP.out.1.on hV, HP.out.2.on hV⟩
    have HPA : Hid (∀ V, Below V12.heap.size V12 V → Pat V ab a ∧ Pat V bb b ∧ Pat V p11 (endP false a) ∧ Pat V p12 (endP false b)) := hPA
    have HE1 : Hid ((standQ T pts false a).testBit i = (standQ T pts false b).testBit i) := congrArg (Nat.testBit · i) HAL.out.1
    have HE2 : Hid ((standQ T pts false (endP false a)).testBit i = (standQ T pts false (endP false b)).testBit i) := congrArg (Nat.testBit · i) HAL.out.2
    have HGA : Hid (Good (endP false a) ∧ Good (endP false b)) := ⟨good_end false HG.out.1, good_end false HG.out.2.1⟩
    have HA1 := fun V hV hp => HA.out V ab a hV hp HG.out.1
    have HA2 := fun V hV hp => HA.out V bb b hV hp HG.out.2.1
    have HA3 := fun V hV hp => HA.out V p11 (endP false a) hV hp HGA.out.1
    have HA4 := fun V hV hp => HA.out V p12 (endP false b) hV hp HGA.out.2
    rw [HE1.out] at HA1
    rw [HE2.out] at HA3
    generalize (standQ T pts false b).testBit i = q1 at HA1 HA2
    generalize (standQ T pts false (endP false b)).testBit i = q2 at HA3 HA4
    have HA1 : Hid _ := HA1
    have HA2 : Hid _ := HA2
    have HA3 : Hid _ := HA3
    have HA4 : Hid _ := HA4
    clear HE1 HE2 hPA hS12 hk12
    have hbz : Below V12.heap.size V12 V12.drew := below_drewN (Below.refl _ _) 1
    go_region_held3 (fun V => V.cell? ⟨cb, 0, none⟩ = some (.func (.func 25) #[] #[]) ∧ V.cell? ⟨eb, 0, none⟩ = some (.pointer (some ⟨xe, 0, none⟩)) ∧ V.cell? ⟨kb, 0, none⟩ = some (.bool false) ∧ V.cell? ⟨mb, 0, none⟩ = some (.map (some mm)) ∧ V.cell? ⟨ub, 0, none⟩ = some (.slice uo m uc) ∧ V.cell? ⟨pb, 0, none⟩ = some (.int .i64 i) ∧ Below W.heap.size W V)
      (exact SB.open_ (by assumption))
      (first
        | (have hmark := hb43; clear hmark; go_at_call 28; refine (HA4.out _ ?_ (HPA.out _ hb43).2.2.2).mono ?_; assumption; rintro e V44 ⟨rfl, hS44, hb⟩; have hb44 := hb43.trans (hb.mono hb43.size); clear hb)
        | (have hmark := hb42; clear hmark; go_at_call 28; refine (HA3.out _ ?_ (HPA.out _ hb42).2.2.1).mono ?_; assumption; rintro e V43 ⟨rfl, hS43, hb⟩; have hb43 := hb42.trans (hb.mono hb42.size); clear hb)
        | (have hmark := hb41; clear hmark; go_at_call 28; refine (HA2.out _ ?_ (HPA.out _ hb41).2.1).mono ?_; assumption; rintro e V42 ⟨rfl, hS42, hb⟩; have hb42 := hb41.trans (hb.mono hb41.size); clear hb)
        | (go_at_call 28; refine (HA1.out _ ?_ (HPA.out _ hbz).1).mono ?_; assumption; rintro e V41 ⟨rfl, hS41, hb⟩; have hb41 := hbz.trans (hb.mono hbz.size); clear hb))
    all_goals
      have HR : Hid (Below W.heap.size W V44) := hS44.2.2.2.2.2.2
      clear hS44 hS43 hS42 hS41 hb44 hb43 hb42 hb41 hbz hS4
      go_wp2_with fail
      go_ret
      exact ⟨rfl, HR.out⟩

set_option maxHeartbeats 40000000 in
set_option maxRecDepth 100000 in
theorem same_true (T : CK.Tab) (pts : List Int) (i : Nat) (a b : RP.Pt) (ab bb xe cb eb kb mb ub pb : Nat) (mv uv : Value) (W : World) (hM : MT W) (hn : pts.length ≤ 63) (hi : i ≤ pts.length) (hu : UnAt W uv pts) (hm : NmAt W.heap.size W mv T)
    (hS : SB W cb eb kb mb ub pb xe true mv uv i W) (he : Pat W xe .edge) (ha : Pat W ab a) (hb : Pat W bb b) (ga : Good a) (gb : Good b) (hal : Alike T pts true a b) :
    Calls Tryz.prog 27 #[.pointer (some ⟨ab, 0, none⟩), .pointer (some ⟨bb, 0, none⟩), .pointer (some ⟨cb, 0, none⟩), .pointer (some ⟨eb, 0, none⟩), .pointer (some ⟨kb, 0, none⟩), .pointer (some ⟨mb, 0, none⟩), .pointer (some ⟨ub, 0, none⟩), .pointer (some ⟨pb, 0, none⟩)] W fun e W' => e = .returned (.bool true) ∧ Below W.heap.size W W' := by
  have HALL : Hid (∀ V, Below W.heap.size W V → MT V ∧ UnAt V uv pts ∧ NmAt V.heap.size V mv T ∧ Pat V xe .edge ∧ Pat V ab a ∧ Pat V bb b) := fun V hV => ⟨hM.on hV, hu.below hV, hm.below hV _ hV.size, he.on hV, ha.on hV, hb.on hV⟩
  have HS : Hid (SB W cb eb kb mb ub pb xe true mv uv i W) := hS
  have HG : Hid (Good a ∧ Good b ∧ pts.length ≤ 63 ∧ i ≤ pts.length) := ⟨ga, gb, hn, hi⟩
  have HAL : Hid ((standQ T pts true a = standQ T pts true b) ∧ standQ T pts true (endP true a) = standQ T pts true (endP true b)) := ⟨hal.stand hn, hal.end_.stand hn⟩
  have eg := enter25
  obtain ⟨mm, _, _, rfl, -⟩ := hm
  obtain ⟨uo, uc, rfl, -, -, -⟩ := hu
  obtain ⟨m, hmm⟩ : ∃ m, m = pts.length := ⟨_, rfl⟩
  rw [← hmm] at HALL HS
  clear hM hn hi hS he ha hb ga gb hal hmm
  go_enter Tryz.func27, Tryz.ntmps27
  go_upto_region 1 with fail
  have hS0 : SB W cb eb kb mb ub pb xe true (.map (some mm)) (.slice uo m uc) i W.drew := HS.out.on (below_drewN (Below.refl _ _) 1)
  have HC11 : Hid (∀ V g, SB W cb eb kb mb ub pb xe true (.map (some mm)) (.slice uo m uc) i V → V.heap[g]? = some (.cells #[.pointer (some ⟨ab, 0, none⟩), .pointer (some ⟨xe, 0, none⟩)] 35 (0, 0)) → Calls Tryz.prog 25 #[.slice (some ⟨g, 0, none⟩) 2 2] V fun e V' => (∃ z, e = .returned (.pointer (some ⟨z, 0, none⟩)) ∧ Pat V' z (.cat (.cons a (.cons .edge .nil)))) ∧ SB W cb eb kb mb ub pb xe true (.map (some mm)) (.slice uo m uc) i V' ∧ Below V.heap.size V V') := fun V g hV hg => by
    refine (cat_two hg (HALL.out _ hV.2.2.2.2.2.2).2.2.2.2.1 (HALL.out _ hV.2.2.2.2.2.2).2.2.2.1).mono ?_
    rintro e V' ⟨h1, h2⟩
    exact ⟨h1, hV.on h2, h2⟩
  have HC12 : Hid (∀ V g, SB W cb eb kb mb ub pb xe true (.map (some mm)) (.slice uo m uc) i V → V.heap[g]? = some (.cells #[.pointer (some ⟨bb, 0, none⟩), .pointer (some ⟨xe, 0, none⟩)] 35 (0, 0)) → Calls Tryz.prog 25 #[.slice (some ⟨g, 0, none⟩) 2 2] V fun e V' => (∃ z, e = .returned (.pointer (some ⟨z, 0, none⟩)) ∧ Pat V' z (.cat (.cons b (.cons .edge .nil)))) ∧ SB W cb eb kb mb ub pb xe true (.map (some mm)) (.slice uo m uc) i V' ∧ Below V.heap.size V V') := fun V g hV hg => by
    refine (cat_two hg (HALL.out _ hV.2.2.2.2.2.2).2.2.2.2.2 (HALL.out _ hV.2.2.2.2.2.2).2.2.2.1).mono ?_
    rintro e V' ⟨h1, h2⟩
    exact ⟨h1, hV.on h2, h2⟩
  go_region_held3 (fun V => V.cell? ⟨cb, 0, none⟩ = some (.func (.func 25) #[] #[]) ∧ V.cell? ⟨eb, 0, none⟩ = some (.pointer (some ⟨xe, 0, none⟩)) ∧ V.cell? ⟨kb, 0, none⟩ = some (.bool true) ∧ V.cell? ⟨mb, 0, none⟩ = some (.map (some mm)) ∧ V.cell? ⟨ub, 0, none⟩ = some (.slice uo m uc) ∧ V.cell? ⟨pb, 0, none⟩ = some (.int .i64 i) ∧ Below W.heap.size W V)
    (first | exact SB.open_ (by assumption) | exact SB.open_ (SB.on (by assumption) (below_alloc1 _ _)))
    (first
      | (have hmark := hp11; clear hmark; go_at_call 25; refine (HC12.out _ _ ?_ ?_).mono ?_; assumption; (first | exact heap_alloc_new _ _ | exact two_new _ _ _ | exact two_old _ _ _ | exact (hb11.block _ (by first | (simp; done) | (simp; omega))).trans (heap_alloc_new _ _) | exact (hb11.block _ (by first | (simp; done) | (simp; omega))).trans (two_new _ _ _) | exact (hb11.block _ (by first | (simp; done) | (simp; omega))).trans (two_old _ _ _)); rintro e V12 ⟨⟨p12, rfl, hp12⟩, hS12, hb12⟩)
      | (go_at_call 25; refine (HC11.out _ _ ?_ ?_).mono ?_; assumption; (first | exact heap_alloc_new _ _ | exact two_new _ _ _ | exact two_old _ _ _); rintro e V11 ⟨⟨p11, rfl, hp11⟩, hS11, hb11⟩))
  all_goals
    have HB12 : Hid (Below W.heap.size W V12) := hS12.2.2.2.2.2.2
    have hk12 := hS12.2.2.1
    have HS12 : Hid (SB W cb eb kb mb ub pb xe true (.map (some mm)) (.slice uo m uc) i V12) := hS12
    clear hp11 hp12 hb12 hb11 hS11 hS0 hS12 HC11 HC12
    go_upto_region 3 with fail
    have hS13 : SB W cb eb kb mb ub pb xe true (.map (some mm)) (.slice uo m uc) i V12.drew := HS12.out.on (below_drewN (Below.refl _ _) 1)
    have HC21 : Hid (∀ V g, SB W cb eb kb mb ub pb xe true (.map (some mm)) (.slice uo m uc) i V → V.heap[g]? = some (.cells #[.pointer (some ⟨xe, 0, none⟩), .pointer (some ⟨ab, 0, none⟩)] 35 (0, 0)) → Calls Tryz.prog 25 #[.slice (some ⟨g, 0, none⟩) 2 2] V fun e V' => (∃ z, e = .returned (.pointer (some ⟨z, 0, none⟩)) ∧ Pat V' z (.cat (.cons .edge (.cons a .nil)))) ∧ SB W cb eb kb mb ub pb xe true (.map (some mm)) (.slice uo m uc) i V' ∧ Below V.heap.size V V') := fun V g hV hg => by
      refine (cat_two hg (HALL.out _ hV.2.2.2.2.2.2).2.2.2.1 (HALL.out _ hV.2.2.2.2.2.2).2.2.2.2.1).mono ?_
      rintro e V' ⟨h1, h2⟩
      exact ⟨h1, hV.on h2, h2⟩
    have HC22 : Hid (∀ V g, SB W cb eb kb mb ub pb xe true (.map (some mm)) (.slice uo m uc) i V → V.heap[g]? = some (.cells #[.pointer (some ⟨xe, 0, none⟩), .pointer (some ⟨bb, 0, none⟩)] 35 (0, 0)) → Calls Tryz.prog 25 #[.slice (some ⟨g, 0, none⟩) 2 2] V fun e V' => (∃ z, e = .returned (.pointer (some ⟨z, 0, none⟩)) ∧ Pat V' z (.cat (.cons .edge (.cons b .nil)))) ∧ SB W cb eb kb mb ub pb xe true (.map (some mm)) (.slice uo m uc) i V' ∧ Below V.heap.size V V') := fun V g hV hg => by
      refine (cat_two hg (HALL.out _ hV.2.2.2.2.2.2).2.2.2.1 (HALL.out _ hV.2.2.2.2.2.2).2.2.2.2.2).mono ?_
      rintro e V' ⟨h1, h2⟩
      exact ⟨h1, hV.on h2, h2⟩
    go_region_held3 (fun V => V.cell? ⟨cb, 0, none⟩ = some (.func (.func 25) #[] #[]) ∧ V.cell? ⟨eb, 0, none⟩ = some (.pointer (some ⟨xe, 0, none⟩)) ∧ V.cell? ⟨kb, 0, none⟩ = some (.bool true) ∧ V.cell? ⟨mb, 0, none⟩ = some (.map (some mm)) ∧ V.cell? ⟨ub, 0, none⟩ = some (.slice uo m uc) ∧ V.cell? ⟨pb, 0, none⟩ = some (.int .i64 i) ∧ Below W.heap.size W V)
      (first | exact SB.open_ (by assumption) | exact SB.open_ (SB.on (by assumption) (below_alloc1 _ _)))
      (first
        | (have hmark := hp21; clear hmark; go_at_call 25; refine (HC22.out _ _ ?_ ?_).mono ?_; assumption; (first | exact heap_alloc_new _ _ | exact two_new _ _ _ | exact two_old _ _ _ | exact (hb21.block _ (by first | (simp; done) | (simp; omega))).trans (heap_alloc_new _ _) | exact (hb21.block _ (by first | (simp; done) | (simp; omega))).trans (two_new _ _ _) | exact (hb21.block _ (by first | (simp; done) | (simp; omega))).trans (two_old _ _ _)); rintro e V22 ⟨⟨p22, rfl, hp22⟩, hS22, hb22⟩)
        | (go_at_call 25; refine (HC21.out _ _ ?_ ?_).mono ?_; assumption; (first | exact heap_alloc_new _ _ | exact two_new _ _ _ | exact two_old _ _ _); rintro e V21 ⟨⟨p21, rfl, hp21⟩, hS21, hb21⟩))
    all_goals
      have hp21' : Pat V22 p21 (endP true a) := by first | exact hp21.on hb22 | exact (hp21.on (below_alloc1 _ _)).on hb22
      have HP : Hid (Pat V22 p21 (endP true a) ∧ Pat V22 p22 (endP true b)) := ⟨hp21', hp22⟩
      have HB22 : Hid (Below W.heap.size W V22) := hS22.2.2.2.2.2.2
      clear hp21 hp21' hp22 hb22 hb21 hS21 hS13 HC21 HC22 hk12 HS12 HB12
      go_upto_region 4 with fail
      have hS4 : SB W cb eb kb mb ub pb xe true (.map (some mm)) (.slice uo m uc) i V22.drew := hS22.on (below_drewN (Below.refl _ _) 1)
      have HA : Hid (∀ V x p, SB W cb eb kb mb ub pb xe true (.map (some mm)) (.slice uo m uc) i V → Pat V x p → Good p → Calls Tryz.prog 28 #[.pointer (some ⟨x, 0, none⟩), .map (some mm), .slice uo m uc, .int .i64 i, .bool true] V fun e V' => e = .returned (.bool ((standQ T pts true p).testBit i)) ∧ SB W cb eb kb mb ub pb xe true (.map (some mm)) (.slice uo m uc) i V' ∧ Below V.heap.size V V') := fun V x p hV hp hg => by
        obtain ⟨k1, k2, k3, -, -, -⟩ := HALL.out V hV.2.2.2.2.2.2
        refine (asks T pts true i x p _ _ V k1 HG.out.2.2.1 HG.out.2.2.2 k2 k3 hp hg).mono ?_
        rintro e V' ⟨h1, h2⟩
        exact ⟨h1, hV.on h2, h2⟩
      have hPA : ∀ V, Below V22.heap.size V22 V → Pat V ab a ∧ Pat V bb b ∧ Pat V p21 (endP true a) ∧ Pat V p22 (endP true b) := fun V hV =>
        ⟨(HALL.out V (HB22.out.trans (hV.mono HB22.out.size))).2.2.2.2.1, (HALL.out V (HB22.out.trans (hV.mono HB22.out.size))).2.2.2.2.2, HP.out.1.on hV, HP.out.2.on hV⟩
      have HPA : Hid (∀ V, Below V22.heap.size V22 V → Pat V ab a ∧ Pat V bb b ∧ Pat V p21 (endP true a) ∧ Pat V p22 (endP true b)) := hPA
      have HE1 : Hid ((standQ T pts true a).testBit i = (standQ T pts true b).testBit i) := congrArg (Nat.testBit · i) HAL.out.1
      have HE2 : Hid ((standQ T pts true (endP true a)).testBit i = (standQ T pts true (endP true b)).testBit i) := congrArg (Nat.testBit · i) HAL.out.2
      have HGA : Hid (Good (endP true a) ∧ Good (endP true b)) := ⟨good_end true HG.out.1, good_end true HG.out.2.1⟩
      have HA1 := fun V hV hp => HA.out V ab a hV hp HG.out.1
      have HA2 := fun V hV hp => HA.out V bb b hV hp HG.out.2.1
      have HA3 := fun V hV hp => HA.out V p21 (endP true a) hV hp HGA.out.1
      have HA4 := fun V hV hp => HA.out V p22 (endP true b) hV hp HGA.out.2
      rw [HE1.out] at HA1
      rw [HE2.out] at HA3
      generalize (standQ T pts true b).testBit i = q1 at HA1 HA2
      generalize (standQ T pts true (endP true b)).testBit i = q2 at HA3 HA4
      have HA1 : Hid _ := HA1
      have HA2 : Hid _ := HA2
      have HA3 : Hid _ := HA3
      have HA4 : Hid _ := HA4
      clear HE1 HE2 hPA hS22
      have hbz : Below V22.heap.size V22 V22.drew := below_drewN (Below.refl _ _) 1
      go_region_held3 (fun V => V.cell? ⟨cb, 0, none⟩ = some (.func (.func 25) #[] #[]) ∧ V.cell? ⟨eb, 0, none⟩ = some (.pointer (some ⟨xe, 0, none⟩)) ∧ V.cell? ⟨kb, 0, none⟩ = some (.bool true) ∧ V.cell? ⟨mb, 0, none⟩ = some (.map (some mm)) ∧ V.cell? ⟨ub, 0, none⟩ = some (.slice uo m uc) ∧ V.cell? ⟨pb, 0, none⟩ = some (.int .i64 i) ∧ Below W.heap.size W V)
        (exact SB.open_ (by assumption))
        (first
          | (have hmark := hb43; clear hmark; go_at_call 28; refine (HA4.out _ ?_ (HPA.out _ hb43).2.2.2).mono ?_; assumption; rintro e V44 ⟨rfl, hS44, hb⟩; have hb44 := hb43.trans (hb.mono hb43.size); clear hb)
          | (have hmark := hb42; clear hmark; go_at_call 28; refine (HA3.out _ ?_ (HPA.out _ hb42).2.2.1).mono ?_; assumption; rintro e V43 ⟨rfl, hS43, hb⟩; have hb43 := hb42.trans (hb.mono hb42.size); clear hb)
          | (have hmark := hb41; clear hmark; go_at_call 28; refine (HA2.out _ ?_ (HPA.out _ hb41).2.1).mono ?_; assumption; rintro e V42 ⟨rfl, hS42, hb⟩; have hb42 := hb41.trans (hb.mono hb41.size); clear hb)
          | (go_at_call 28; refine (HA1.out _ ?_ (HPA.out _ hbz).1).mono ?_; assumption; rintro e V41 ⟨rfl, hS41, hb⟩; have hb41 := hbz.trans (hb.mono hbz.size); clear hb))
      all_goals
        have HR : Hid (Below W.heap.size W V44) := hS44.2.2.2.2.2.2
        clear hS44 hS43 hS42 hS41 hb44 hb43 hb42 hb41 hbz hS4
        go_wp2_with fail
        go_ret
        exact ⟨rfl, HR.out⟩

theorem same_any (T : CK.Tab) (pts : List Int) (back : Bool) (i : Nat) (a b : RP.Pt) (ab bb xe cb eb kb mb ub pb : Nat) (mv uv : Value) (W : World) (hM : MT W) (hn : pts.length ≤ 63) (hi : i ≤ pts.length) (hu : UnAt W uv pts) (hm : NmAt W.heap.size W mv T)
    (hS : SB W cb eb kb mb ub pb xe back mv uv i W) (he : Pat W xe .edge) (ha : Pat W ab a) (hb : Pat W bb b) (ga : Good a) (gb : Good b) (hal : Alike T pts back a b) :
    Calls Tryz.prog 27 #[.pointer (some ⟨ab, 0, none⟩), .pointer (some ⟨bb, 0, none⟩), .pointer (some ⟨cb, 0, none⟩), .pointer (some ⟨eb, 0, none⟩), .pointer (some ⟨kb, 0, none⟩), .pointer (some ⟨mb, 0, none⟩), .pointer (some ⟨ub, 0, none⟩), .pointer (some ⟨pb, 0, none⟩)] W fun e W' => e = .returned (.bool true) ∧ Below W.heap.size W W' := by
  cases back with
  | false => exact same_false T pts i a b ab bb xe cb eb kb mb ub pb mv uv W hM hn hi hu hm hS he ha hb ga gb hal
  | true => exact same_true T pts i a b ab bb xe cb eb kb mb ub pb mv uv W hM hn hi hu hm hS he ha hb ga gb hal

end Go.Proofs.YtjbdlihlcoldlaaGreatDoor.M
