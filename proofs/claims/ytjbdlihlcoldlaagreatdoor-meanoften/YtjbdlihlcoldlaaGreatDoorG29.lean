/- check: a set's copy; names at hand in a map; what of a kind is missing. -/
import Derived.Test.YtjbdlihlcoldlaaGreatDoorG12
import Derived.Test.YtjbdlihlcoldlaaGreatDoorG27
import Derived.Test.YtjbdlihlcoldlaaGreatDoorG28
import Derived.Maps.OwnSet
import Derived.Deep.RegionHeld3
namespace Go.Proofs.YtjbdlihlcoldlaaGreatDoor.Q
open Go.RowKit Go.Shelf Go.Maps

theorem keepsB {w w' : World} (h : Below w.heap.size w w') : Keeps (fun _ => True) w w' := fun b _ hl => h.block b hl

theorem set_nil_yes (w : World) : (binOp BinOp.eql 41 (.slice none 0 0) (.slice none 0 0)).run Tryz.prog w = .ok (.bool true) w := by kernel_rfl
theorem set_nil_no (a : Addr) (n cap : Nat) (w : World) : (binOp BinOp.eql 41 (.slice (some a) n cap) (.slice none 0 0)).run Tryz.prog w = .ok (.bool false) w := by kernel_rfl

/-- A set is answered; nothing that was there is turned. -/
def SetSay (w : World) (X : List RS.Rg) (e : Ending) (w' : World) : Prop :=
  (∃ v, e = .returned v ∧ RgAt w'.heap.size w' v X) ∧ Below w.heap.size w w'

set_option maxHeartbeats 2000000 in
set_option maxRecDepth 100000 in
theorem set_clone_any (v : Value) (X : List RS.Rg) (w : World) (hv : RgAt w.heap.size w v X) (hl : X.length ≤ 3000000) :
    Calls Tryz.prog 68 #[v] w (SetSay w X) := by
  have HV : Hid (RgAt w.heap.size w v X) := hv
  obtain ⟨ao, cap, rfl, ⟨h1, h2⟩, -⟩ := hv
  cases ao with
  | none =>
    obtain rfl := h2 rfl
    obtain rfl : X = [] := List.length_eq_zero_iff.1 (by omega)
    have hq := set_nil_yes w
    go_enter Tryz.func68, Tryz.ntmps68
    go_wp2_with fail
    go_ret
    exact ⟨⟨_, rfl, HV.out⟩, Below.refl _ _⟩
  | some a =>
    have hq := set_nil_no a X.length cap w
    have hb0 : Below w.heap.size w (w.alloc (.cells #[] 46)) := (Below.refl _ w).alloc (Nat.le_refl _) _
    have hown : (w.alloc (.cells #[] 46)).ownsRow w.heap.size 46 2 (.slice (some ⟨w.heap.size, 0, none⟩) 0 0) ([] : List RS.Rg).length (flat2 []) := by
      refine ⟨rfl, .inr ⟨w.heap.size, 0, #[], rfl, Nat.le_refl _, heap_alloc_new _ _, Nat.le_refl _, by unfold maxLen; omega, rfl, rfl⟩⟩
    have hV1 := HV.out.below hb0 _ hb0.size
    have HB0 : Hid (Below w.heap.size w (w.alloc (.cells #[] 46))) := hb0
    obtain ⟨n, hn⟩ : ∃ n, n = X.length := ⟨_, rfl⟩
    rw [← hn] at hV1 hq h1 ⊢
    clear hn hb0
    go_enter Tryz.func68, Tryz.ntmps68
    go_wp2_with (at_builtin; refine wpList_append_rg rfl _ _ rfl w.heap.size _ _ [] X rfl rfl hown hV1 HB0.out.size ?_ ?_)
    · simp; omega
    intro v' w' hown' hb'
    have HR : Hid (SetSay w X (.returned v') w') := by
      refine ⟨⟨_, rfl, ?_⟩, HB0.out.trans hb'⟩
      exact rg_of_own hown'
    obtain ⟨ao, cc, rfl⟩ := own_slice hown'
    clear hown' hb' hV1 hown
    go_wp2_with fail
    go_ret
    exact HR.out

/-- How what lies in a map reads: as itself. -/
def heldElem (v : Value) : Option (DataW Value × List MemPlace) := some (.held v, [])

/-- A map at hand that holds just these names, each with its set. -/
def NmAt (B : Nat) (w : World) (v : Value) (T : CK.Tab) : Prop :=
  ∃ b n D, v = .map (some b) ∧ b < B ∧ n ≤ T.length ∧ w.ownsMap Tryz.prog 9 heldElem b n D ∧ (∀ x : List UInt8, Maps.has D (.string x) = (CK.look T x).isSome) ∧
    ∀ x X, CK.look T x = some X → ∃ u, (∀ z, D.atKey (.string x) z = .held u) ∧ RgAt B w u X ∧ RS.right X = true

theorem NmAt.below {w w' : World} {B : Nat} {v : Value} {T : CK.Tab} (h : NmAt B w v T) (hb : Below B w w') (B' : Nat) (hB : B ≤ B') : NmAt B' w' v T := by
  obtain ⟨b, n, D, rfl, h1, h2, h3, h4, h5⟩ := h
  refine ⟨b, n, D, rfl, by omega, h2, map_block h3 (hb.block b h1), h4, fun x X hx => ?_⟩
  obtain ⟨u, k1, k2, k3⟩ := h5 x X hx
  exact ⟨u, k1, k2.below hb _ hB, k3⟩

theorem keyed9 : Keyed Tryz.prog 9 := string_keyed Tryz.underlying9
theorem key9 (x : List UInt8) (hx : x.length ≤ 5000) : keyOf Tryz.prog 9 (.string ⟨x.toArray⟩) = some (.string x) := by
  have := WideMaps.keyOf_string_mk (P := Tryz.prog) (k := 9) Tryz.underlying9 (s := ⟨x.toArray⟩) (by show x.toArray.size ≤ _; simp; unfold maxLen; omega)
  simpa using this

theorem zero41 (w : World) : (zeroValue 41).run Tryz.prog w = .ok (.slice none 0 0) w := by kernel_rfl

/-- What a name stands for, looked up. -/
theorem NmAt.find {w : World} {v : Value} {T : CK.Tab} (h : NmAt w.heap.size w v T) (x : List UInt8) (hx : x.length ≤ 5000) :
    ∃ b u, v = .map (some b) ∧ (Instr.lookup 29 (.map (some b)) (.string ⟨x.toArray⟩) true).run Tryz.prog w = .ok (.tuple #[u, .bool (CK.look T x).isSome]) w ∧
      (Instr.lookup 29 (.map (some b)) (.string ⟨x.toArray⟩) false).run Tryz.prog w = .ok u w ∧ RgAt w.heap.size w u ((CK.look T x).getD []) ∧ RS.right ((CK.look T x).getD []) = true := by
  obtain ⟨b, n, D, rfl, h1, h2, h3, h4, h5⟩ := h
  obtain ⟨u, ps, k1, k2⟩ := h3.look_ok keyed9 Tryz.underlying29 (zero41 w) (zd := .held (.slice none 0 0)) (zp := []) rfl (key9 x hx)
  obtain ⟨u', ps', m1, m2⟩ := h3.lookup keyed9 Tryz.underlying29 (zero41 w) (zd := .held (.slice none 0 0)) (zp := []) rfl (key9 x hx)
  have e1 : DataW.held u = D.atKey (.string x) (.held (.slice none 0 0)) := by
    have := Option.some.inj k2
    exact congrArg Prod.fst this
  have e2 : DataW.held u' = D.atKey (.string x) (.held (.slice none 0 0)) := by
    have := Option.some.inj m2
    exact congrArg Prod.fst this
  obtain rfl : u' = u := by
    have := e2.trans e1.symm
    injection this
  refine ⟨b, u', rfl, ?_, m1, ?_⟩
  · rw [← h4 x]; exact k1
  · cases hl : CK.look T x with
    | none =>
      have h6 := h4 x
      rw [hl] at h6
      rw [atKey_of_not_has h6] at e1
      injection e1 with e1
      subst e1
      exact ⟨⟨none, 0, rfl, ⟨Nat.le_refl _, fun _ => rfl⟩, fun h => absurd rfl h⟩, rfl⟩
    | some X =>
      obtain ⟨u2, k3, k4, k5⟩ := h5 x X hl
      rw [k3] at e1
      injection e1 with e1
      subst e1
      exact ⟨k4, k5⟩

/-- What of a kind or a pattern is missing is told. -/
def MissSay (w : World) (m : Option Nat) (e : Ending) (w' : World) : Prop :=
  Below w.heap.size w w' ∧ match m with
    | none => e = .returned .nilIface
    | some a => ∃ g, e = .returned (.iface 96 (.pointer (some ⟨g, 0, none⟩))) ∧ w'.heap[g]? = some (.cells #[.int .i64 7, .int .i64 a] 98) ∧ w.heap.size ≤ g

theorem MissSay.after {w w1 : World} {m : Option Nat} {e : Ending} {w' : World} (h : MissSay w1 m e w') (hb : Below w.heap.size w w1) : MissSay w m e w' := by
  obtain ⟨h1, h2⟩ := h
  refine ⟨hb.trans (h1.mono hb.size), ?_⟩
  cases m with
  | none => exact h2
  | some a =>
    obtain ⟨g, k1, k2, k3⟩ := h2
    exact ⟨g, k1, k2, by have := hb.size; omega⟩

set_option maxHeartbeats 4000000 in
set_option maxRecDepth 100000 in
theorem kindMissing_any (T : CK.Tab) : ∀ (k : RP.K) (v mv : Value) (w : World), CK.Fit k → KAt (fun _ => True) w v k → NmAt w.heap.size w mv T →
    Calls Tryz.prog 42 #[v, mv] w (MissSay w (CK.missK T k)) := by
  intro k
  induction k with
  | lit a X =>
    rintro v mv w - ⟨b, sv, rfl, -, hb, -, -⟩ hm
    have c0 := loc_cell (k := 0) hb rfl
    obtain ⟨mb, _, _, rfl, -⟩ := hm
    clear hb
    go_enter Tryz.func42, Tryz.ntmps42
    go_wp2_with fail
    go_ret
    exact ⟨Below.refl _ _, rfl⟩
  | ref a x =>
    rintro v mv w hx ⟨b, rfl, -, hb⟩ hm
    have hx : x.length ≤ 10 := hx
    have c0 := loc_cell (k := 0) hb rfl
    have c1 := loc_cell (k := 1) hb rfl
    have c3 := loc_cell (k := 3) hb rfl
    obtain ⟨mb, u, rfl, f1, -, -⟩ := hm.find x (by omega)
    have HM : Hid (CK.missK T (.ref a x) = if (CK.look T x).isSome then none else some a) := rfl
    generalize CK.missK T (.ref a x) = m at HM ⊢
    generalize (⟨x.toArray⟩ : ByteArray) = y at f1 c3
    clear hb hm hx
    cases hl : (CK.look T x).isSome with
    | true =>
      rw [hl] at f1 HM
      obtain rfl : m = none := HM.out
      clear hl
      go_enter Tryz.func42, Tryz.ntmps42
      go_wp2_with fail
      go_ret
      exact ⟨Below.refl _ _, rfl⟩
    | false =>
      rw [hl] at f1 HM
      obtain rfl : m = some a := HM.out
      clear hl
      go_enter Tryz.func42, Tryz.ntmps42
      go_wp2_with fail
      go_ret
      refine ⟨?_, w.heap.size, rfl, ?_, ?_⟩
      · exact (Below.refl _ w).alloc (Nat.le_refl _) _
      · exact heap_alloc_new _ _
      · exact Nat.le_refl _
  | neg a k ih =>
    rintro v mv w hf ⟨b, lv, rfl, -, hb, hk⟩ hm
    have c0 := loc_cell (k := 0) hb rfl
    have c4 := loc_cell (k := 4) hb rfl
    have C := ih lv mv w hf hk hm
    obtain ⟨mb, _, _, rfl, -⟩ := hm
    obtain ⟨lb, rfl⟩ := hk.ptr
    have HM : Hid (CK.missK T (.neg a k) = CK.missK T k) := rfl
    generalize CK.missK T (.neg a k) = m at HM ⊢
    obtain rfl := HM.out
    generalize CK.missK T k = m at C ⊢
    clear hb hk ih hf HM
    go_enter Tryz.func42, Tryz.ntmps42
    go_wp2_with fail
    refine C.mono ?_
    rintro e w1 ⟨hb1, hs⟩
    have HB : Hid (Below w.heap.size w w1) := hb1
    clear C hb1
    cases m with
    | none =>
      obtain rfl := hs
      go_wp2_with fail
      go_ret
      exact ⟨HB.out, rfl⟩
    | some a =>
      obtain ⟨g, rfl, h1, h2⟩ := hs
      have H1 : Hid (w1.heap[g]? = some (.cells #[.int .i64 7, .int .i64 a] 98)) := h1
      clear h1
      go_wp2_with fail
      go_ret
      exact ⟨HB.out, g, rfl, H1.out, h2⟩
  | bin code a l r ihl ihr =>
    rintro v mv w ⟨hcode, hfl, hfr⟩ ⟨b, lv, rv, rfl, -, hb, hkl, hkr⟩ hm
    have c0 := loc_cell (k := 0) hb rfl
    have c4 := loc_cell (k := 4) hb rfl
    have C := ihl lv mv w hfl hkl hm
    have HD : Hid (∀ W, Below w.heap.size w W → Calls Tryz.prog 42 #[rv, mv] W (MissSay W (CK.missK T r))) := fun W hW => ihr rv mv W hfr (hkr.keep (keepsB hW)) (hm.below hW _ hW.size)
    have HB5 : Hid (w.heap[b]? = some (.cells #[.int .i64 code, .int .i64 a, .slice none 0 0, .string ⟨#[]⟩, lv, rv] 48)) := hb
    obtain ⟨mb, _, _, rfl, -⟩ := hm
    obtain ⟨lb, rfl⟩ := hkl.ptr
    obtain ⟨rb, rfl⟩ := hkr.ptr
    have HM : Hid (CK.missK T (.bin code a l r) = (CK.missK T l).or (CK.missK T r)) := rfl
    generalize CK.missK T (.bin code a l r) = m at HM ⊢
    obtain rfl := HM.out
    generalize CK.missK T l = m1 at C ⊢
    generalize CK.missK T r = m2 at HD ⊢
    clear hb hkl hkr ihl ihr hfl hfr HM
    rcases hcode with rfl | rfl | rfl
    all_goals
      go_enter Tryz.func42, Tryz.ntmps42
      go_wp2_with fail
      refine C.mono ?_
      rintro e w1 ⟨hb1, hs⟩
      have HB : Hid (Below w.heap.size w w1) := hb1
      have c5 := loc_cell (k := 5) ((hb1.block b (lt_of_block HB5.out)).trans HB5.out) rfl
      clear C hb1 c0 c4
      cases m1 with
      | none =>
        obtain rfl := hs
        have D := HD.out w1 HB.out
        go_wp2_with fail
        refine D.mono ?_
        rintro e w2 h2
        have h3 := h2.after HB.out
        clear D h2
        have H3 : Hid (MissSay w m2 e w2) := h3
        obtain ⟨hb2, hs⟩ := h3
        cases m2 with
        | none =>
          obtain rfl := hs
          go_wp2_with fail
          go_ret
          exact H3.out
        | some a2 =>
          obtain ⟨g, rfl, -, -⟩ := hs
          go_wp2_with fail
          go_ret
          exact H3.out
      | some a1 =>
        obtain ⟨g, rfl, h1, h2⟩ := hs
        have H1 : Hid (w1.heap[g]? = some (.cells #[.int .i64 7, .int .i64 a1] 98)) := h1
        clear h1
        go_wp2_with fail
        go_ret
        exact ⟨HB.out, g, rfl, H1.out, h2⟩

end Go.Proofs.YtjbdlihlcoldlaaGreatDoor.Q

namespace Go.Proofs.YtjbdlihlcoldlaaGreatDoor.Q
open Go.RowKit Go.Shelf Go.Maps

theorem or_bin (va vb : Value) (X Y : List RS.Rg) (hX : RS.right X = true) (hY : RS.right Y = true) (w : World) (ha : RgAt w.heap.size w va X) (hb : RgAt w.heap.size w vb Y) :
    Calls Tryz.prog 69 #[va, vb] w fun e w' => SetSay w (CK.binL 3 X Y) e w' ∧ RS.right (CK.binL 3 X Y) = true := by
  have l1 := CK.right_le hX
  have l2 := CK.right_le hY
  refine (or_any va vb X Y (by omega) (by omega) w ha hb).mono ?_
  rintro e w' ⟨v, r, rfl, hof, -, hown, hb⟩
  have e1 : CK.binL 3 X Y = r := by unfold CK.binL; rw [if_pos rfl]; exact CK.orL_eq hof
  rw [e1]
  exact ⟨⟨⟨v, rfl, rg_of_own hown⟩, hb⟩, hof.1⟩

theorem and_bin (va vb : Value) (X Y : List RS.Rg) (hX : RS.right X = true) (hY : RS.right Y = true) (w : World) (ha : RgAt w.heap.size w va X) (hb : RgAt w.heap.size w vb Y) :
    Calls Tryz.prog 70 #[va, vb] w fun e w' => SetSay w (CK.binL 4 X Y) e w' ∧ RS.right (CK.binL 4 X Y) = true := by
  have l1 := CK.right_le hX
  have l2 := CK.right_le hY
  refine (and_any va vb X Y (by omega) (by omega) w ha hb).mono ?_
  rintro e w' ⟨v, rfl, hown, hb⟩
  have e1 : CK.binL 4 X Y = RS.andL X Y := by unfold CK.binL; rw [if_neg (by decide), if_pos rfl]
  rw [e1]
  exact ⟨⟨⟨v, rfl, rg_of_own hown⟩, hb⟩, RS.andL_right hX hY⟩

theorem less_bin (va vb : Value) (X Y : List RS.Rg) (hX : RS.right X = true) (hY : RS.right Y = true) (w : World) (ha : RgAt w.heap.size w va X) (hb : RgAt w.heap.size w vb Y) :
    Calls Tryz.prog 71 #[va, vb] w fun e w' => SetSay w (CK.binL 5 X Y) e w' ∧ RS.right (CK.binL 5 X Y) = true := by
  have l1 := CK.right_le hX
  have l2 := CK.right_le hY
  refine (less_any va vb X Y (by omega) (by omega) hY w ha hb).mono ?_
  rintro e w' ⟨v, rfl, hown, hb⟩
  have e1 : CK.binL 5 X Y = RS.lessL X Y := by unfold CK.binL; rw [if_neg (by decide), if_neg (by decide)]
  rw [e1]
  exact ⟨⟨⟨v, rfl, rg_of_own hown⟩, hb⟩, RS.lessL_right hX hY⟩

theorem not_bin (va : Value) (X : List RS.Rg) (hX : RS.right X = true) (w : World) (ha : RgAt w.heap.size w va X) :
    Calls Tryz.prog 72 #[va] w fun e w' => SetSay w (RS.notL X) e w' ∧ RS.right (RS.notL X) = true := by
  have l1 := CK.right_le hX
  refine (not_any va X (by omega) w ha hX).mono ?_
  rintro e w' ⟨v, rfl, hown, hb⟩
  exact ⟨⟨⟨v, rfl, rg_of_own hown⟩, hb⟩, RS.notL_right hX⟩

theorem SetSay.after {w w1 : World} {X : List RS.Rg} {e : Ending} {w' : World} (h : SetSay w1 X e w') (hb : Below w.heap.size w w1) : SetSay w X e w' :=
  ⟨h.1, hb.trans (h.2.mono hb.size)⟩

/-- A kind's two parts stay while new blocks are laid. -/
def HoldK (w : World) (b : Nat) (lv rv : Value) (W : World) : Prop := W.cell? ⟨b, 4, none⟩ = some lv ∧ W.cell? ⟨b, 5, none⟩ = some rv ∧ Below w.heap.size w W ∧ b < W.heap.size

theorem HoldK.open_ {w : World} {b : Nat} {lv rv : Value} {W : World} (h : HoldK w b lv rv W) : W.cell? ⟨b, 4, none⟩ = some lv ∧ W.cell? ⟨b, 5, none⟩ = some rv ∧ Below w.heap.size w W ∧ b < W.heap.size := h

theorem HoldK.call {w : World} {b : Nat} {lv rv : Value} {W W' : World} (h : HoldK w b lv rv W) (hb : Below W.heap.size W W') : HoldK w b lv rv W' := by
  obtain ⟨h1, h2, h3, h4⟩ := h
  exact ⟨(hb.cell (p := ⟨b, 4, none⟩) (by exact h4)).trans h1, (hb.cell (p := ⟨b, 5, none⟩) (by exact h4)).trans h2, h3.trans (hb.mono h3.size), Nat.lt_of_lt_of_le h4 hb.size⟩

theorem below_drew1 (w : World) : Below w.heap.size w w.drew := (Below.refl _ w).drew

/-- What setOf tells of a kind. -/
def SetC (T : CK.Tab) (v mv : Value) (k : RP.K) (w : World) : Prop := Calls Tryz.prog 43 #[v, mv] w fun e w' => SetSay w (CK.setK T k) e w' ∧ RS.right (CK.setK T k) = true

set_option maxHeartbeats 4000000 in
set_option maxRecDepth 100000 in
theorem setOf_any (T : CK.Tab) : ∀ (k : RP.K) (v mv : Value) (w : World), CK.Fit k → KAt (fun _ => True) w v k → NmAt w.heap.size w mv T → SetC T v mv k w := by
  intro k
  induction k with
  | lit a X =>
    rintro v mv w - ⟨b, sv, rfl, -, hb, hrow, hr⟩ hm
    have c0 := loc_cell (k := 0) hb rfl
    have c2 := loc_cell (k := 2) hb rfl
    have C := set_clone_any sv X w (rg_of_own hrow.1) (by have := CK.right_le hr; omega)
    obtain ⟨mb, _, _, rfl, -⟩ := hm
    obtain ⟨ao, cc, rfl⟩ := own_slice hrow.1
    show Calls Tryz.prog 43 _ w fun e w' => SetSay w X e w' ∧ RS.right X = true
    generalize X.length = n at *
    clear hb hrow
    go_enter Tryz.func43, Tryz.ntmps43
    go_wp2_with fail
    refine C.mono ?_
    rintro e w1 hs
    have HS : Hid (SetSay w X e w1) := hs
    obtain ⟨⟨u, rfl, hu⟩, -⟩ := hs
    obtain ⟨uo, uc, rfl, -⟩ := hu
    clear C
    go_wp2_with fail
    go_ret
    exact ⟨HS.out, hr⟩
  | ref a x =>
    rintro v mv w hx ⟨b, rfl, -, hb⟩ hm
    have hx : x.length ≤ 10 := hx
    have c0 := loc_cell (k := 0) hb rfl
    have c3 := loc_cell (k := 3) hb rfl
    obtain ⟨mb, u, rfl, -, f2, hu, hr⟩ := hm.find x (by omega)
    show Calls Tryz.prog 43 _ w fun e w' => SetSay w ((CK.look T x).getD []) e w' ∧ RS.right ((CK.look T x).getD []) = true
    generalize (CK.look T x).getD [] = X at hu hr ⊢
    have C := set_clone_any u X w hu (by have := CK.right_le hr; omega)
    obtain ⟨uo, uc, rfl, -⟩ := hu
    generalize (⟨x.toArray⟩ : ByteArray) = y at f2 c3
    generalize X.length = n at *
    clear hb hm
    go_enter Tryz.func43, Tryz.ntmps43
    go_wp2_with fail
    refine C.mono ?_
    rintro e w1 hs
    have HS : Hid (SetSay w X e w1) := hs
    obtain ⟨⟨u, rfl, hu⟩, -⟩ := hs
    obtain ⟨uo, uc, rfl, -⟩ := hu
    clear C
    go_wp2_with fail
    go_ret
    exact ⟨HS.out, hr⟩
  | neg a k ih =>
    rintro v mv w hf ⟨b, lv, rfl, -, hb, hk⟩ hm
    have c0 := loc_cell (k := 0) hb rfl
    have c4 := loc_cell (k := 4) hb rfl
    have C := ih lv mv w hf hk hm
    obtain ⟨mb, _, _, rfl, -⟩ := hm
    obtain ⟨lb, rfl⟩ := hk.ptr
    show Calls Tryz.prog 43 _ w fun e w' => SetSay w (RS.notL (CK.setK T k)) e w' ∧ RS.right (RS.notL (CK.setK T k)) = true
    unfold SetC at C
    generalize CK.setK T k = X at C ⊢
    clear hb hk ih hf
    go_enter Tryz.func43, Tryz.ntmps43
    go_wp2_with fail
    refine C.mono ?_
    rintro e w1 ⟨⟨⟨u, rfl, hu⟩, hb1⟩, hr⟩
    have D := not_bin u X hr w1 hu
    obtain ⟨uo, uc, rfl, -⟩ := hu
    have HB : Hid (Below w.heap.size w w1) := hb1
    generalize X.length = n at *
    clear C hb1
    go_wp2_with fail
    refine D.mono ?_
    rintro e w2 ⟨hs, hr2⟩
    have HS : Hid (SetSay w (RS.notL X) e w2) := hs.after HB.out
    obtain ⟨⟨u2, rfl, hu2⟩, -⟩ := hs
    obtain ⟨uo2, uc2, rfl, -⟩ := hu2
    clear D
    go_wp2_with fail
    go_ret
    exact ⟨HS.out, hr2⟩
  | bin code a l r ihl ihr =>
    rintro v mv w ⟨hcode, hfl, hfr⟩ ⟨b, lv, rv, rfl, -, hb, hkl, hkr⟩ hm
    have c0 := loc_cell (k := 0) hb rfl
    have c4 := loc_cell (k := 4) hb rfl
    have HC : Hid (∀ W, Below w.heap.size w W → SetC T lv mv l W) := fun W hW => ihl lv mv W hfl (hkl.keep (keepsB hW)) (hm.below hW _ hW.size)
    have HD : Hid (∀ W, Below w.heap.size w W → SetC T rv mv r W) := fun W hW => ihr rv mv W hfr (hkr.keep (keepsB hW)) (hm.below hW _ hW.size)
    have hS : HoldK w b lv rv w.drew := (⟨c4, loc_cell (k := 5) hb rfl, below_drew1 w, lt_of_block hb⟩ : HoldK w b lv rv w.drew)
    obtain ⟨mb, _, _, rfl, -⟩ := hm
    obtain ⟨lb, rfl⟩ := hkl.ptr
    obtain ⟨rb, rfl⟩ := hkr.ptr
    show Calls Tryz.prog 43 _ w fun e w' => SetSay w (CK.binL code (CK.setK T l) (CK.setK T r)) e w' ∧ RS.right (CK.binL code (CK.setK T l) (CK.setK T r)) = true
    unfold SetC at HC HD
    generalize CK.setK T l = X at HC ⊢
    generalize CK.setK T r = Y at HD ⊢
    clear hb hkl hkr ihl ihr hfl hfr c4
    have HBIN : Hid (∀ (va vb : Value) (w : World), RS.right X = true → RS.right Y = true → RgAt w.heap.size w va X → RgAt w.heap.size w vb Y →
        (Calls Tryz.prog 69 #[va, vb] w fun e w' => SetSay w (CK.binL 3 X Y) e w' ∧ RS.right (CK.binL 3 X Y) = true) ∧
        (Calls Tryz.prog 70 #[va, vb] w fun e w' => SetSay w (CK.binL 4 X Y) e w' ∧ RS.right (CK.binL 4 X Y) = true) ∧
        (Calls Tryz.prog 71 #[va, vb] w fun e w' => SetSay w (CK.binL 5 X Y) e w' ∧ RS.right (CK.binL 5 X Y) = true)) :=
      fun va vb w h1 h2 h3 h4 => ⟨or_bin va vb X Y h1 h2 w h3 h4, and_bin va vb X Y h1 h2 w h3 h4, less_bin va vb X Y h1 h2 w h3 h4⟩
    rcases hcode with rfl | rfl | rfl
    · go_enter Tryz.func43, Tryz.ntmps43
      go_wp2_with fail
      go_region_held3 (fun W => W.cell? ⟨b, 4, none⟩ = some (.pointer (some ⟨lb, 0, none⟩)) ∧ W.cell? ⟨b, 5, none⟩ = some (.pointer (some ⟨rb, 0, none⟩)) ∧ Below w.heap.size w W ∧ b < W.heap.size) (exact HoldK.open_ (by assumption))
        (first
          | (go_at_call 69; refine (HBIN.out _ _ _ hr1 hr2 (hu.below hb2 _ hb2.size) hu2).1.mono ?_; rintro e w3 ⟨⟨⟨u3, rfl, hu3⟩, hb3⟩, hr3⟩; have hS3 := hS2.call hb3)
          | (go_at_call 43; refine (HD.out _ hS1.2.2.1).mono ?_; rintro e w2 ⟨⟨⟨u2, rfl, hu2⟩, hb2⟩, hr2⟩; have hS2 := hS1.call hb2)
          | (go_at_call 43; refine (HC.out _ hS.2.2.1).mono ?_; rintro e w1 ⟨⟨⟨u, rfl, hu⟩, hb1⟩, hr1⟩; have hS1 := hS.call hb1))
      have HS3 : Hid (SetSay w (CK.binL 3 X Y) (.returned u3) w3) := ⟨⟨u3, rfl, hu3⟩, hS3.2.2.1⟩
      obtain ⟨uo3, uc3, rfl, -⟩ := hu3
      clear hS hS1 hS2 hS3 hu hu2 hb1 hb2 hb3
      go_wp2_with fail
      go_ret
      exact ⟨HS3.out, hr3⟩
    · go_enter Tryz.func43, Tryz.ntmps43
      go_wp2_with fail
      go_region_held3 (fun W => W.cell? ⟨b, 4, none⟩ = some (.pointer (some ⟨lb, 0, none⟩)) ∧ W.cell? ⟨b, 5, none⟩ = some (.pointer (some ⟨rb, 0, none⟩)) ∧ Below w.heap.size w W ∧ b < W.heap.size) (exact HoldK.open_ (by assumption))
        (first
          | (go_at_call 70; refine (HBIN.out _ _ _ hr1 hr2 (hu.below hb2 _ hb2.size) hu2).2.1.mono ?_; rintro e w3 ⟨⟨⟨u3, rfl, hu3⟩, hb3⟩, hr3⟩; have hS3 := hS2.call hb3)
          | (go_at_call 43; refine (HD.out _ hS1.2.2.1).mono ?_; rintro e w2 ⟨⟨⟨u2, rfl, hu2⟩, hb2⟩, hr2⟩; have hS2 := hS1.call hb2)
          | (go_at_call 43; refine (HC.out _ hS.2.2.1).mono ?_; rintro e w1 ⟨⟨⟨u, rfl, hu⟩, hb1⟩, hr1⟩; have hS1 := hS.call hb1))
      have HS3 : Hid (SetSay w (CK.binL 4 X Y) (.returned u3) w3) := ⟨⟨u3, rfl, hu3⟩, hS3.2.2.1⟩
      obtain ⟨uo3, uc3, rfl, -⟩ := hu3
      clear hS hS1 hS2 hS3 hu hu2 hb1 hb2 hb3
      go_wp2_with fail
      go_ret
      exact ⟨HS3.out, hr3⟩
    · go_enter Tryz.func43, Tryz.ntmps43
      go_wp2_with fail
      go_region_held3 (fun W => W.cell? ⟨b, 4, none⟩ = some (.pointer (some ⟨lb, 0, none⟩)) ∧ W.cell? ⟨b, 5, none⟩ = some (.pointer (some ⟨rb, 0, none⟩)) ∧ Below w.heap.size w W ∧ b < W.heap.size) (exact HoldK.open_ (by assumption))
        (first
          | (go_at_call 71; refine (HBIN.out _ _ _ hr1 hr2 (hu.below hb2 _ hb2.size) hu2).2.2.mono ?_; rintro e w3 ⟨⟨⟨u3, rfl, hu3⟩, hb3⟩, hr3⟩; have hS3 := hS2.call hb3)
          | (go_at_call 43; refine (HD.out _ hS1.2.2.1).mono ?_; rintro e w2 ⟨⟨⟨u2, rfl, hu2⟩, hb2⟩, hr2⟩; have hS2 := hS1.call hb2)
          | (go_at_call 43; refine (HC.out _ hS.2.2.1).mono ?_; rintro e w1 ⟨⟨⟨u, rfl, hu⟩, hb1⟩, hr1⟩; have hS1 := hS.call hb1))
      have HS3 : Hid (SetSay w (CK.binL 5 X Y) (.returned u3) w3) := ⟨⟨u3, rfl, hu3⟩, hS3.2.2.1⟩
      obtain ⟨uo3, uc3, rfl, -⟩ := hu3
      clear hS hS1 hS2 hS3 hu hu2 hb1 hb2 hb3
      go_wp2_with fail
      go_ret
      exact ⟨HS3.out, hr3⟩

/-- What Kind tells. -/
def KindSay (w : World) (T : CK.Tab) (k : RP.K) (e : Ending) (w' : World) : Prop :=
  Below w.heap.size w w' ∧ match CK.missK T k with
    | none => ∃ v, e = .returned (.tuple #[v, .nilIface]) ∧ RgAt w'.heap.size w' v (CK.setK T k) ∧ RS.right (CK.setK T k) = true
    | some a => ∃ g, e = .returned (.tuple #[.slice none 0 0, .iface 96 (.pointer (some ⟨g, 0, none⟩))]) ∧ w'.heap[g]? = some (.cells #[.int .i64 7, .int .i64 a] 98) ∧ w.heap.size ≤ g

set_option maxHeartbeats 4000000 in
set_option maxRecDepth 100000 in
theorem kind_set_any (T : CK.Tab) (k : RP.K) (v mv : Value) (w : World) (hf : CK.Fit k) (hk : KAt (fun _ => True) w v k) (hm : NmAt w.heap.size w mv T) :
    Calls Tryz.prog 14 #[v, mv] w (KindSay w T k) := by
  have C := kindMissing_any T k v mv w hf hk hm
  have HD : Hid (∀ W, Below w.heap.size w W → SetC T v mv k W) := fun W hW => setOf_any T k v mv W hf (hk.keep (keepsB hW)) (hm.below hW _ hW.size)
  unfold SetC at HD
  obtain ⟨mb, _, _, rfl, -⟩ := hm
  obtain ⟨kb, rfl⟩ := hk.ptr
  unfold KindSay
  generalize CK.missK T k = m at C ⊢
  generalize CK.setK T k = X at HD ⊢
  clear hf hk
  go_enter Tryz.func14, Tryz.ntmps14
  go_wp2_with fail
  refine C.mono ?_
  rintro e w1 ⟨hb1, hs⟩
  have D := HD.out w1 hb1
  have HB : Hid (Below w.heap.size w w1) := hb1
  clear C hb1
  cases m with
  | some a =>
    obtain ⟨g, rfl, h1, h2⟩ := hs
    have H1 : Hid (w1.heap[g]? = some (.cells #[.int .i64 7, .int .i64 a] 98)) := h1
    clear h1 D
    go_wp2_with fail
    go_ret2
    exact ⟨HB.out, g, rfl, H1.out, h2⟩
  | none =>
    obtain rfl := hs
    go_wp2_with fail
    refine D.mono ?_
    rintro e w2 ⟨⟨⟨u, rfl, hu⟩, hb2⟩, hr⟩
    have HU : Hid (RgAt w2.heap.size w2 u X) := hu
    have HB2 : Hid (Below w.heap.size w w2) := HB.out.trans (hb2.mono HB.out.size)
    obtain ⟨uo, uc, rfl, -⟩ := hu
    obtain ⟨n, hn⟩ : ∃ n, n = X.length := ⟨_, rfl⟩
    rw [← hn] at HU ⊢
    clear D hb2 hn
    go_wp2_with fail
    go_ret2
    first
    | exact ⟨HB2.out, _, rfl, HU.out, hr⟩
    | exact ⟨HB2.out, _, rfl, HU.out⟩

end Go.Proofs.YtjbdlihlcoldlaaGreatDoor.Q

namespace Go.Proofs.YtjbdlihlcoldlaaGreatDoor.Q
open Go.RowKit Go.Shelf Go.Maps

theorem CsAt.get {ok : Nat → Prop} {w : World} : ∀ {cs : List RP.Cl} {vs : List Value} (_ : CsAt ok w vs cs) (k : Nat) (hk : k < cs.length), ∃ kv, vs[k * 3]? = some (.string ⟨cs[k].name.toArray⟩) ∧ vs[k * 3 + 1]? = some (.int .i64 cs[k].at_) ∧ vs[k * 3 + 2]? = some kv ∧ KAt ok w kv cs[k].kind
  | [], _, _, k, hk => by simp at hk
  | c :: cs, vs, ⟨kv, us, hu, h1, h2⟩, 0, _ => by subst hu; exact ⟨kv, rfl, rfl, rfl, h1⟩
  | c :: cs, vs, ⟨kv, us, hu, h1, h2⟩, k + 1, hk => by
    subst hu
    obtain ⟨v, h3, h4, h5, h6⟩ := CsAt.get (cs := cs) h2 k (by simpa using hk)
    have e0 : (k + 1) * 3 = k * 3 + 3 := by omega
    refine ⟨v, ?_, ?_, ?_, by simpa using h6⟩
    · rw [e0]; simpa using h3
    · rw [e0]; simpa using h4
    · rw [e0]; simpa using h5

theorem RsAt.get {ok : Nat → Prop} {w : World} : ∀ {cs : List RP.Ru} {vs : List Value} (_ : RsAt ok w vs cs) (k : Nat) (hk : k < cs.length), ∃ bv av, vs[k * 4]? = some (.int .i64 cs[k].at_) ∧ vs[k * 4 + 1]? = some (.bool cs[k].brk) ∧ vs[k * 4 + 2]? = some bv ∧ vs[k * 4 + 3]? = some av ∧ PAt ok w [bv] cs[k].before ∧ PAt ok w [av] cs[k].after
  | [], _, _, k, hk => by simp at hk
  | c :: cs, vs, ⟨bv, av, us, hu, _, h1, _, h2, h3⟩, 0, _ => by subst hu; exact ⟨bv, av, rfl, rfl, rfl, rfl, h1, h2⟩
  | c :: cs, vs, ⟨bv, av, us, hu, _, h1, _, h2, h3⟩, k + 1, hk => by
    subst hu
    obtain ⟨b, a, q1, q2, q3, q4, q5, q6⟩ := RsAt.get (cs := cs) h3 k (by simpa using hk)
    have e0 : (k + 1) * 4 = k * 4 + 4 := by omega
    refine ⟨b, a, ?_, ?_, ?_, ?_, by simpa using q5, by simpa using q6⟩
    · rw [e0]; simpa using q1
    · rw [e0]; simpa using q2
    · rw [e0]; simpa using q3
    · rw [e0]; simpa using q4

/-- A row's cells, from wherever it begins. -/
theorem row_cells {ok : Nat → Prop} {w : World} {e : TypeId} {size n : Nat} {sv : Value} {vs : List Value} (h : Row ok w e size sv n vs) :
    ∃ ao cp, sv = .slice ao n cp ∧ n ≤ cp ∧ ∀ (_ : vs ≠ []), ∃ g off, ao = some ⟨g, off, none⟩ ∧ g < w.heap.size ∧ ∀ j u, vs[j]? = some u → w.cell? ⟨g, off + j, none⟩ = some u := by
  have hk := h.1
  obtain ⟨⟨h1, h2 | ⟨g, cap, cur, rfl, hg, hh, hn, hc, hs, ht⟩⟩, _⟩ := h
  · obtain ⟨rfl, h0⟩ := h2
    refine ⟨none, 0, by rw [h0], by omega, fun hne => ?_⟩
    rw [h0, Nat.zero_mul] at h1
    exact absurd (List.length_eq_zero_iff.1 h1) hne
  · refine ⟨_, cap, rfl, hn, fun _ => ⟨g, 0, rfl, lt_of_block hh, fun j u hu => ?_⟩⟩
    have := hk.cells (g := g) rfl j u hu
    simp only [Addr.add_lit] at this
    exact this

/-- Of each of these patterns it is told what is missing. -/
def RowM (T : CK.Tab) (w : World) (mv : Value) : List Value → RP.Pt → Prop
  | vs, .cons p ps => ∃ b us, vs = .pointer (some ⟨b, 0, none⟩) :: us ∧ (∀ W, Below w.heap.size w W → Calls Tryz.prog 62 #[.pointer (some ⟨b, 0, none⟩), mv] W (MissSay W (CK.missP T p))) ∧ RowM T w mv us ps
  | vs, .nil => vs = []
  | _, _ => False

theorem RowM.head {T : CK.Tab} {w : World} {mv u : Value} {us : List Value} {p : RP.Pt} (h : RowM T w mv (u :: us) p) : ∃ q ps b, p = .cons q ps ∧ u = .pointer (some ⟨b, 0, none⟩) ∧ (∀ W, Below w.heap.size w W → Calls Tryz.prog 62 #[.pointer (some ⟨b, 0, none⟩), mv] W (MissSay W (CK.missP T q))) ∧ RowM T w mv us ps := by
  cases p with
  | cons q ps =>
    obtain ⟨b, vs, e, h1, h2⟩ := h
    cases e
    exact ⟨q, ps, b, rfl, rfl, h1, h2⟩
  | nil => cases h
  | _ => exact h.elim

theorem RowM.none {T : CK.Tab} {w : World} {mv : Value} {p : RP.Pt} (h : RowM T w mv [] p) : p = .nil := by
  cases p with
  | cons q ps => obtain ⟨b, vs, e, _⟩ := h; cases e
  | nil => rfl
  | _ => exact h.elim

set_option maxHeartbeats 4000000 in
set_option maxRecDepth 100000 in
theorem parts_miss (T : CK.Tab) (b code : Nat) (lo hi : Int) (sv : Value) (ws : List Value) (mb : Nat) (ps : RP.Pt) (w : World) (hcode : code = 4 ∨ code = 5 ∨ code = 6)
    (hb : w.heap[b]? = some (.cells #[.int .i64 code, .pointer none, sv, .int .i64 lo, .int .i64 hi] 39)) (hrow : Row (fun _ => True) w 35 1 sv ws.length ws) (hm : RowM T w (.map (some mb)) ws ps) :
    Calls Tryz.prog 62 #[.pointer (some ⟨b, 0, none⟩), .map (some mb)] w (MissSay w (CK.missP T ps)) := by
  obtain ⟨ao, cp, rfl, hcp, hcell⟩ := row_cells hrow
  have c0 := loc_cell (k := 0) hb rfl
  have c2 := loc_cell (k := 2) hb rfl
  have hcm : cp ≤ 9223372036854775807 ∨ ws = [] := by
    obtain ⟨⟨_, h2 | ⟨g, cap, cur, e, _, _, _, hc, _⟩⟩, _⟩ := hrow
    · right; exact List.length_eq_zero_iff.1 h2.2
    · left; cases e; unfold maxLen at hc; exact hc
  have hnl : ws.length ≤ 9223372036854775807 := by
    rcases hcm with h | h
    · omega
    · rw [h]; simp
  obtain ⟨n, hn⟩ : ∃ n, n = ws.length := ⟨_, rfl⟩
  rw [← hn] at c2 hcp hnl
  have HN : Hid (n = ws.length) := hn
  have HM : Hid (RowM T w (.map (some mb)) ws ps) := hm
  have HC : Hid (ws ≠ [] → ∃ g off, ao = some ⟨g, off, none⟩ ∧ g < w.heap.size ∧ ∀ j u, ws[j]? = some u → w.cell? ⟨g, off + j, none⟩ = some u) := hcell
  clear hb hrow hm hcell hcm hn
  rcases hcode with rfl | rfl | rfl
  all_goals
    go_enter Tryz.func62, Tryz.ntmps62
    go_wp2_with fail
    go_loopw [31] (fun i wr => ∃ (k : Nat) (rest : RP.Pt), k ≤ n ∧ i = .int .i64 k ∧ Below w.heap.size w wr ∧ RowM T w (.map (some mb)) (ws.drop k) rest ∧ CK.missP T ps = CK.missP T rest) (fun i _ => n - (intOf i).toNat)
    case atStart => exact ⟨0, ps, Nat.zero_le _, rfl, Below.refl _ _, HM.out, rfl⟩
    case round =>
      obtain ⟨k, rest, hk, rfl, hb, hr, he⟩ := hrel
      by_cases hlt : k < n
      · have hkv : k < ws.length := by have := HN.out; omega
        rw [List.drop_eq_getElem_cons hkv] at hr
        obtain ⟨q, qs, pb, rfl, hu, hC, hr2⟩ := hr.head
        obtain ⟨g, off, rfl, hgl, hcl⟩ := HC.out (fun e => by rw [e] at hkv; simp at hkv)
        have hcell := (hb.cell (p := ⟨g, off + k, none⟩) (by exact hgl)).trans (hcl k (.pointer (some ⟨pb, 0, none⟩)) (by rw [List.getElem?_eq_getElem hkv, hu]))
        have C := hC _ hb
        have hki : (k : Int) < n := by omega
        have HB : Hid (Below w.heap.size w _) := hb
        have HR : Hid (RowM T w (.map (some mb)) (ws.drop (k + 1)) qs ∧ CK.missP T ps = (CK.missP T q).or (CK.missP T qs)) := ⟨hr2, he⟩
        generalize CK.missP T q = m at C HR
        clear hb hr hr2 he hC hu hcl
        go_wp2_with fail
        refine C.mono ?_
        rintro e w1 h1
        have h2 := h1.after HB.out
        have H2 : Hid (MissSay w m e w1) := h2
        obtain ⟨hb1, hs⟩ := h2
        have HB1 : Hid (Below w.heap.size w w1) := hb1
        clear C h1 hb1
        cases m with
        | none =>
          obtain rfl := hs
          go_wp2_with fail
          case roundEnd => exact ⟨⟨k + 1, qs, by omega, by go_num, HB1.out, HR.out.1, HR.out.2⟩, by simp [intOf]; omega⟩
        | some a =>
          obtain ⟨g2, rfl, h3, h4⟩ := hs
          have HS : Hid (MissSay w (CK.missP T ps) (.returned (.iface 96 (.pointer (some ⟨g2, 0, none⟩)))) w1) := by rw [HR.out.2]; exact H2.out
          clear h3
          go_wp2_with fail
          go_ret
          exact HS.out
      · obtain rfl : n = k := by omega
        have hd : ws.drop n = [] := by rw [HN.out]; exact List.drop_length
        rw [hd] at hr
        obtain rfl := hr.none
        have HS : Hid (MissSay w (CK.missP T ps) (.returned .nilIface) wr) := by rw [he]; exact ⟨hb, rfl⟩
        clear hb hr he hd
        go_wp2_with fail
        go_ret
        exact HS.out

set_option maxHeartbeats 4000000 in
set_option maxRecDepth 100000 in
theorem patternMissing_any (T : CK.Tab) : ∀ (p : RP.Pt),
    (∀ (v mv : Value) (w : World), CK.FitP p false → PAt (fun _ => True) w [v] p → NmAt w.heap.size w mv T → Calls Tryz.prog 62 #[v, mv] w (MissSay w (CK.missP T p))) ∧
    (∀ (vs : List Value) (mv : Value) (w : World), CK.FitP p true → PAt (fun _ => True) w vs p → NmAt w.heap.size w mv T → RowM T w mv vs p) := by
  intro p
  induction p with
  | one k =>
    refine ⟨fun v mv w hf hp hm => ?_, fun vs mv w hf _ _ => by cases hf.1⟩
    obtain ⟨b, kv, e, -, hb, hk⟩ := hp
    cases e
    have c0 := loc_cell (k := 0) hb rfl
    have c1 := loc_cell (k := 1) hb rfl
    have C := kindMissing_any T k kv mv w hf.2 hk hm
    obtain ⟨mb, _, _, rfl, -⟩ := hm
    obtain ⟨kb, rfl⟩ := hk.ptr
    show Calls Tryz.prog 62 _ w (MissSay w (CK.missK T k))
    generalize CK.missK T k = m at C ⊢
    clear hb hk hf
    go_enter Tryz.func62, Tryz.ntmps62
    go_wp2_with fail
    refine C.mono ?_
    rintro e w1 h1
    have H1 : Hid (MissSay w m e w1) := h1
    obtain ⟨-, hs⟩ := h1
    clear C
    cases m with
    | none =>
      obtain rfl := hs
      go_wp2_with fail
      go_ret
      exact H1.out
    | some a =>
      obtain ⟨g, rfl, -, -⟩ := hs
      go_wp2_with fail
      go_ret
      exact H1.out
  | any =>
    refine ⟨fun v mv w hf hp hm => ?_, fun vs mv w hf _ _ => by cases hf⟩
    obtain ⟨b, e, -, hb⟩ := hp
    cases e
    have c0 := loc_cell (k := 0) hb rfl
    obtain ⟨mb, _, _, rfl, -⟩ := hm
    clear hb
    go_enter Tryz.func62, Tryz.ntmps62
    go_wp2_with fail
    go_ret
    exact ⟨Below.refl _ _, rfl⟩
  | edge =>
    refine ⟨fun v mv w hf hp hm => ?_, fun vs mv w hf _ _ => by cases hf⟩
    obtain ⟨b, e, -, hb⟩ := hp
    cases e
    have c0 := loc_cell (k := 0) hb rfl
    obtain ⟨mb, _, _, rfl, -⟩ := hm
    clear hb
    go_enter Tryz.func62, Tryz.ntmps62
    go_wp2_with fail
    go_ret
    exact ⟨Below.refl _ _, rfl⟩
  | cat ps ih =>
    refine ⟨fun v mv w hf hp hm => ?_, fun vs mv w hf _ _ => by cases hf.1⟩
    obtain ⟨b, sv, ws, e, -, hb, hrow, hps⟩ := hp
    cases e
    have hr := ih.2 ws mv w hf.2 hps hm
    obtain ⟨mb, _, _, rfl, -⟩ := hm
    exact parts_miss T b 4 0 0 sv ws mb ps w (.inl rfl) hb hrow hr
  | alt ps ih =>
    refine ⟨fun v mv w hf hp hm => ?_, fun vs mv w hf _ _ => by cases hf.1⟩
    obtain ⟨b, sv, ws, e, -, hb, hrow, hps⟩ := hp
    cases e
    have hr := ih.2 ws mv w hf.2 hps hm
    obtain ⟨mb, _, _, rfl, -⟩ := hm
    exact parts_miss T b 5 0 0 sv ws mb ps w (.inr (.inl rfl)) hb hrow hr
  | many p lo hi ih =>
    refine ⟨fun v mv w hf hp hm => ?_, fun vs mv w hf _ _ => by cases hf.1⟩
    obtain ⟨b, sv, ws, e, -, hb, hrow, hps⟩ := hp
    cases e
    have hl : ws.length = 1 := by have := hrow.1.1; omega
    obtain ⟨u, rfl⟩ := List.length_eq_one_iff.1 hl
    have hptr : ∃ pb, u = .pointer (some ⟨pb, 0, none⟩) := by
      cases p with
      | nil => cases hf.2.1
      | cons p ps => cases hf.2.1.1
      | one k => obtain ⟨b', _, e, _⟩ := hps; cases e; exact ⟨_, rfl⟩
      | any => obtain ⟨b', e, _⟩ := hps; cases e; exact ⟨_, rfl⟩
      | edge => obtain ⟨b', e, _⟩ := hps; cases e; exact ⟨_, rfl⟩
      | cat ps => obtain ⟨b', _, _, e, _⟩ := hps; cases e; exact ⟨_, rfl⟩
      | alt ps => obtain ⟨b', _, _, e, _⟩ := hps; cases e; exact ⟨_, rfl⟩
      | many p lo hi => obtain ⟨b', _, _, e, _⟩ := hps; cases e; exact ⟨_, rfl⟩
    obtain ⟨pb, rfl⟩ := hptr
    have hC : ∀ W, Below w.heap.size w W → Calls Tryz.prog 62 #[.pointer (some ⟨pb, 0, none⟩), mv] W (MissSay W (CK.missP T p)) := fun W hW => ih.1 _ mv W hf.2.1 (hps.keep (keepsB hW)) (hm.below hW _ hW.size)
    obtain ⟨mb, _, _, rfl, -⟩ := hm
    have := parts_miss T b 6 lo hi sv [.pointer (some ⟨pb, 0, none⟩)] mb (.cons p .nil) w (.inr (.inr rfl)) hb hrow ⟨pb, [], rfl, hC, rfl⟩
    have e : CK.missP T (.cons p .nil) = CK.missP T (.many p lo hi) := by
      show (CK.missP T p).or none = CK.missP T p
      cases CK.missP T p <;> rfl
    rwa [e] at this
  | nil =>
    exact ⟨fun v mv w hf _ _ => (by cases hf), fun vs mv w _ hp _ => hp⟩
  | cons p ps ih1 ih2 =>
    refine ⟨fun v mv w hf _ _ => (by cases hf.1), fun vs mv w hf hp hm => ?_⟩
    obtain ⟨v, us, rfl, h1, h2⟩ := hp
    have hptr : ∃ pb, v = .pointer (some ⟨pb, 0, none⟩) := by
      have hf1 := hf.2.1
      cases p with
      | nil => cases hf1
      | cons p ps => cases hf1.1
      | one k => obtain ⟨b', _, e, _⟩ := h1; cases e; exact ⟨_, rfl⟩
      | any => obtain ⟨b', e, _⟩ := h1; cases e; exact ⟨_, rfl⟩
      | edge => obtain ⟨b', e, _⟩ := h1; cases e; exact ⟨_, rfl⟩
      | cat ps => obtain ⟨b', _, _, e, _⟩ := h1; cases e; exact ⟨_, rfl⟩
      | alt ps => obtain ⟨b', _, _, e, _⟩ := h1; cases e; exact ⟨_, rfl⟩
      | many p lo hi => obtain ⟨b', _, _, e, _⟩ := h1; cases e; exact ⟨_, rfl⟩
    obtain ⟨pb, rfl⟩ := hptr
    exact ⟨pb, us, rfl, fun W hW => ih1.1 _ mv W hf.2.1 (h1.keep (keepsB hW)) (hm.below hW _ hW.size), ih2.2 us mv w hf.2.2 h2 hm⟩

end Go.Proofs.YtjbdlihlcoldlaaGreatDoor.Q
