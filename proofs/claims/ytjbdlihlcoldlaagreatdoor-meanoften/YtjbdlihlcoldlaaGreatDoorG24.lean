/- The contracts of atUnit, of set.Parse as a function of the text, and of setOrName; kinds in memory. -/
import Derived.Test.YtjbdlihlcoldlaaGreatDoorG20
import Derived.Test.YtjbdlihlcoldlaaGreatDoorG00
import Derived.Test.YtjbdlihlcoldlaaGreatDoorG23
namespace Go.Proofs.YtjbdlihlcoldlaaGreatDoor.Q
open Go.RowKit Go.Shelf

theorem ct_any (s : ByteArray) (c : UInt8) (w : World) : Calls Tryz.prog 235 #[.string s, .string ⟨#[c]⟩] w fun e w' => e = .returned (.bool (decide (0 ≤ Lib.indexByte s.data.toList c))) ∧ w' = w := Any.strings_Contains_one Tryz.ctL s c w

set_option maxHeartbeats 1000000 in
set_option maxRecDepth 100000 in
theorem atUnit_any (pb : Nat) (t : RP.Tok) (r : List RP.Tok) (c : Nat) (ht : RP.TokOk t) (w : World) (h : PS pb (t :: r) c w) :
    Calls Tryz.prog 217 #[.pointer (some ⟨pb, 0, none⟩)] w fun e w' => e = .returned (.bool (RP.atUnit t)) ∧ w' = w := by
  have hI3 := is_any 3 pb t r c w h
  have hI1 := is_any 1 pb t r c w h
  have hI4 := is_any 4 pb t r c w h
  by_cases h3 : t.kind = 3
  · have HR : Hid (RP.atUnit t = true) := by show _ = _; simp [RP.atUnit, h3]
    have e3 : decide (t.kind = 3) = true := by simpa using h3
    rw [e3] at hI3
    clear h h3 e3 hI1 hI4
    go_enter Tryz.func217, Tryz.ntmps217
    go_wp2_with fail
    refine hI3.mono ?_
    rintro e w' ⟨rfl, hw⟩
    obtain rfl := hw.symm
    go_wp2_with fail
    go_ret
    exact ⟨ret_bool HR.out.symm, rfl⟩
  · have e3 : decide (t.kind = 3) = false := by simpa using h3
    rw [e3] at hI3
    by_cases h1 : t.kind = 1
    · have HR : Hid (RP.atUnit t = true) := by show _ = _; simp [RP.atUnit, h1]
      have e1 : decide (t.kind = 1) = true := by simpa using h1
      rw [e1] at hI1
      clear h h3 e3 h1 e1 hI4
      go_enter Tryz.func217, Tryz.ntmps217
      go_wp2_with fail
      refine hI3.mono ?_
      rintro e w' ⟨rfl, hw⟩
      obtain rfl := hw.symm
      go_wp2_with fail
      refine hI1.mono ?_
      rintro e w' ⟨rfl, hw⟩
      obtain rfl := hw.symm
      go_wp2_with fail
      go_ret
      exact ⟨ret_bool HR.out.symm, rfl⟩
    · have e1 : decide (t.kind = 1) = false := by simpa using h1
      rw [e1] at hI1
      by_cases h4 : t.kind = 4
      · obtain ⟨b, hb⟩ : ∃ b, t.text = [b] := List.length_eq_one_iff.1 (ht.2.2.1 h4)
        have HR : Hid (RP.atUnit t = decide (0 ≤ Lib.indexByte [46, 36, 40] b)) := by
          show _ = _
          rw [← Lib.contains_iff_indexByte]
          simp [RP.atUnit, h4, hb]
        have e4 : decide (t.kind = 4) = true := by simpa using h4
        rw [e4] at hI4
        have hC := ct_any ⟨#[46, 36, 40]⟩ b w
        obtain ⟨tb, off, cap, c0, c1, f0, f1, hc, hcm, t0, t1, t2, -, -, -⟩ := h.open
        rw [hb] at t2
        clear h h3 e3 h1 e1 h4 e4 hb ht
        go_enter Tryz.func217, Tryz.ntmps217
        go_wp2_with fail
        refine hI3.mono ?_
        rintro e w' ⟨rfl, hw⟩
        obtain rfl := hw.symm
        go_wp2_with fail
        refine hI1.mono ?_
        rintro e w' ⟨rfl, hw⟩
        obtain rfl := hw.symm
        go_wp2_with fail
        refine hI4.mono ?_
        rintro e w' ⟨rfl, hw⟩
        obtain rfl := hw.symm
        go_wp2_with fail
        refine hC.mono ?_
        rintro e w' ⟨rfl, hw⟩
        obtain rfl := hw.symm
        go_wp2_with fail
        go_ret
        exact ⟨ret_bool HR.out.symm, rfl⟩
      · have HR : Hid (RP.atUnit t = false) := by show _ = _; simp [RP.atUnit, h3, h1, h4]
        have e4 : decide (t.kind = 4) = false := by simpa using h4
        rw [e4] at hI4
        clear h h3 e3 h1 e1 h4 e4
        go_enter Tryz.func217, Tryz.ntmps217
        go_wp2_with fail
        refine hI3.mono ?_
        rintro e w' ⟨rfl, hw⟩
        obtain rfl := hw.symm
        go_wp2_with fail
        refine hI1.mono ?_
        rintro e w' ⟨rfl, hw⟩
        obtain rfl := hw.symm
        go_wp2_with fail
        refine hI4.mono ?_
        rintro e w' ⟨rfl, hw⟩
        obtain rfl := hw.symm
        go_wp2_with fail
        go_ret
        exact ⟨ret_bool HR.out.symm, rfl⟩

open Classical in
/-- The set that a text is, if it is one. -/
noncomputable def setOf (t : List UInt8) : Option (List RS.Rg) :=
  if h : ∃ X, RS.right X = true ∧ bytesOf (RS.setText X) = ⟨t.toArray⟩ then some h.choose else none

theorem midText_ge (s : List RS.Rg) : ∀ k, s.length ≤ (RS.midText k s).length := by
  induction s with
  | nil => intro k; simp
  | cons r s ih =>
    intro k
    have h1 := ih (k + 1)
    have h2 : 1 ≤ (RS.rgText r).length := List.length_pos_iff.2 (rgText_ne r)
    rw [RS.midText, List.length_append, List.length_append, List.length_cons]
    omega

/-- The tables that set.Parse looks at. -/
def KT (w : World) : Prop := TZ w ∧ EV w ∧ ML w ∧ 7 < w.heap.size
theorem KT.below {w w' : World} (h : KT w) (hb : Below w.heap.size w w') : KT w' :=
  ⟨h.1.below hb h.2.2.2, h.2.1.below hb h.2.2.2, h.2.2.1.below hb h.2.2.2, Nat.lt_of_lt_of_le h.2.2.2 hb.size⟩

theorem setParse_some (t : List UInt8) (X : List RS.Rg) (ht : t.length ≤ 5000) (hX : setOf t = some X) (w : World) (hK : KT w) :
    Calls Tryz.prog 234 #[.string ⟨t.toArray⟩] w fun e w' => (∃ v, e = .returned (.tuple #[v, .nilIface]) ∧ w'.ownsRow w.heap.size 46 2 v X.length (flat2 X)) ∧ Below w.heap.size w w' := by
  unfold setOf at hX
  split at hX
  · rename_i h
    cases hX
    obtain ⟨h1, h2⟩ := h.choose_spec
    generalize h.choose = Y at h1 h2
    have hl : Y.length ≤ 5000 := by
      have e1 : (RS.setText Y).length = t.length := by
        have := congrArg ByteArray.size h2
        rw [bytesOf_size] at this
        rw [this]
        show t.toArray.size = _
        simp
      have e2 := midText_ge Y 0
      have e3 : (RS.setText Y).length = (RS.midText 0 Y).length + 2 := by simp [RS.setText]
      omega
    have := parse_text Y hl h1 w hK.2.1 hK.2.2.1 hK.1 hK.2.2.2
    rw [h2] at this
    exact this
  · cases hX

theorem setParse_none (t : List UInt8) (ht : t.length ≤ 5000) (hX : setOf t = none) (w : World) (hK : KT w) :
    Calls Tryz.prog 234 #[.string ⟨t.toArray⟩] w fun e w' => e = .returned (.tuple #[.slice none 0 0, .iface 89 (.int .i64 3)]) ∧ Below w.heap.size w w' := by
  unfold setOf at hX
  split at hX
  · cases hX
  · rename_i h
    refine (parse_all ⟨t.toArray⟩ (by show t.toArray.size ≤ 5000; simpa using ht) w hK.2.1 hK.2.2.1 hK.1 hK.2.2.2).mono ?_
    rintro e w' ⟨hp | ⟨v, out, _, _, h3, h4, _⟩, hb⟩
    · exact ⟨hp, hb⟩
    · exact absurd ⟨out, h3, h4⟩ h

end Go.Proofs.YtjbdlihlcoldlaaGreatDoor.Q

namespace Go.Proofs.YtjbdlihlcoldlaaGreatDoor.Q
open Go.RowKit Go.Shelf

/-- The blocks that a world does not hold yet. -/
def New (w : World) (b : Nat) : Prop := w.heap.size ≤ b

/-- An own row whose block is one of these. -/
def Row (ok : Nat → Prop) (w : World) (e : TypeId) (size : Nat) (v : Value) (n : Nat) (xs : List Value) : Prop :=
  w.ownsRow 0 e size v n xs ∧ ∀ j, v.ownBlock = some j → ok j

/-- A pointer leads to this kind, in such blocks. -/
def KAt (ok : Nat → Prop) (w : World) : Value → RP.K → Prop
  | v, .lit a X => ∃ b sv, v = .pointer (some ⟨b, 0, none⟩) ∧ ok b ∧ w.heap[b]? = some (.cells #[.int .i64 1, .int .i64 a, sv, .string ⟨#[]⟩, .pointer none, .pointer none] 48) ∧ Row ok w 46 2 sv X.length (flat2 X) ∧ RS.right X = true
  | v, .ref a x => ∃ b, v = .pointer (some ⟨b, 0, none⟩) ∧ ok b ∧ w.heap[b]? = some (.cells #[.int .i64 2, .int .i64 a, .slice none 0 0, .string ⟨x.toArray⟩, .pointer none, .pointer none] 48)
  | v, .bin code a l r => ∃ b lv rv, v = .pointer (some ⟨b, 0, none⟩) ∧ ok b ∧ w.heap[b]? = some (.cells #[.int .i64 code, .int .i64 a, .slice none 0 0, .string ⟨#[]⟩, lv, rv] 48) ∧ KAt ok w lv l ∧ KAt ok w rv r
  | v, .neg a k => ∃ b lv, v = .pointer (some ⟨b, 0, none⟩) ∧ ok b ∧ w.heap[b]? = some (.cells #[.int .i64 6, .int .i64 a, .slice none 0 0, .string ⟨#[]⟩, lv, .pointer none] 48) ∧ KAt ok w lv k

/-- Such blocks are as they were. -/
def Keeps (ok : Nat → Prop) (w w' : World) : Prop := ∀ b, ok b → b < w.heap.size → w'.heap[b]? = w.heap[b]?

theorem Keeps.grown {ok : Nat → Prop} {w w' : World} {g : Option Nat} (hg : w.grownBy w' g) (hp : ∀ b, ok b → some b ≠ g) : Keeps ok w w' :=
  fun b hb hl => hg.block b hl (hp b hb)

theorem Keeps.alloc (ok : Nat → Prop) (w : World) (o : Obj) : Keeps ok w (w.alloc o) := fun _ _ hl => heap_alloc_old w o hl

theorem Row.keep {ok : Nat → Prop} {w w' : World} {e : TypeId} {size : Nat} {v : Value} {n : Nat} {xs : List Value} (h : Row ok w e size v n xs) (hk : Keeps ok w w') : Row ok w' e size v n xs := by
  obtain ⟨⟨h1, h2 | ⟨g, cap, cur, rfl, hgl, hh, rest⟩⟩, ho⟩ := h
  · exact ⟨⟨h1, Or.inl h2⟩, ho⟩
  · exact ⟨⟨h1, Or.inr ⟨g, cap, cur, rfl, hgl, (hk g (ho g rfl) (lt_of_block hh)).trans hh, rest⟩⟩, ho⟩

theorem Row.mono {ok ok' : Nat → Prop} {w : World} {e : TypeId} {size : Nat} {v : Value} {n : Nat} {xs : List Value} (h : Row ok w e size v n xs) (hk : ∀ b, b < w.heap.size → ok b → ok' b) : Row ok' w e size v n xs :=
  ⟨h.1, fun j hj => hk j (h.1.lt j hj).2 (h.2 j hj)⟩

theorem Row.new {w w' : World} {e : TypeId} {size : Nat} {v : Value} {n : Nat} {xs : List Value} (h : w'.ownsRow w.heap.size e size v n xs) : Row (New w) w' e size v n xs :=
  ⟨owns_mono h (Nat.zero_le _), fun j hj => (h.lt j hj).1⟩

theorem KAt.keep {ok : Nat → Prop} {w w' : World} (hk : Keeps ok w w') : ∀ {k : RP.K} {v : Value}, KAt ok w v k → KAt ok w' v k := by
  intro k
  induction k with
  | lit a X =>
    rintro v ⟨b, sv, rfl, h1, h2, h3, h4⟩
    exact ⟨b, sv, rfl, h1, (hk b h1 (lt_of_block h2)).trans h2, h3.keep hk, h4⟩
  | ref a x =>
    rintro v ⟨b, rfl, h1, h2⟩
    exact ⟨b, rfl, h1, (hk b h1 (lt_of_block h2)).trans h2⟩
  | bin code a l r ihl ihr =>
    rintro v ⟨b, lv, rv, rfl, h1, h2, h3, h4⟩
    exact ⟨b, lv, rv, rfl, h1, (hk b h1 (lt_of_block h2)).trans h2, ihl h3, ihr h4⟩
  | neg a k ih =>
    rintro v ⟨b, lv, rfl, h1, h2, h3⟩
    exact ⟨b, lv, rfl, h1, (hk b h1 (lt_of_block h2)).trans h2, ih h3⟩

theorem KAt.mono {ok ok' : Nat → Prop} {w : World} (hk : ∀ b, b < w.heap.size → ok b → ok' b) : ∀ {k : RP.K} {v : Value}, KAt ok w v k → KAt ok' w v k := by
  intro k
  induction k with
  | lit a X =>
    rintro v ⟨b, sv, rfl, h1, h2, h3, h4⟩
    exact ⟨b, sv, rfl, hk b (lt_of_block h2) h1, h2, h3.mono hk, h4⟩
  | ref a x =>
    rintro v ⟨b, rfl, h1, h2⟩
    exact ⟨b, rfl, hk b (lt_of_block h2) h1, h2⟩
  | bin code a l r ihl ihr =>
    rintro v ⟨b, lv, rv, rfl, h1, h2, h3, h4⟩
    exact ⟨b, lv, rv, rfl, hk b (lt_of_block h2) h1, h2, ihl h3, ihr h4⟩
  | neg a k ih =>
    rintro v ⟨b, lv, rfl, h1, h2, h3⟩
    exact ⟨b, lv, rfl, hk b (lt_of_block h2) h1, h2, ih h3⟩

theorem Keeps.new {w W w' : World} {pb : Nat} (hl : pb < w.heap.size) (hg : W.grownBy w' (some pb)) : Keeps (New w) W w' :=
  Keeps.grown hg fun b hb e => by cases e; unfold New at hb; omega

theorem New.mono {w W : World} (h : w.heap.size ≤ W.heap.size) {n : Nat} : ∀ b, b < n → New W b → New w b := fun _ _ hb => Nat.le_trans h hb

theorem KT.grown {w w' : World} {pb : Nat} (h : KT w) (hg : w.grownBy w' (some pb)) (hp : 7 < pb) : KT w' := by
  have hb : ∀ j k, j ≤ 7 → w'.cell? ⟨j, k, none⟩ = w.cell? ⟨j, k, none⟩ := fun j k hj => World.cell?_of_block (a := ⟨j, k, none⟩) (hg.block j (by have := h.2.2.2; omega) (fun e => by cases e; omega))
  obtain ⟨h1, ⟨h2, h3⟩, ⟨m, h4⟩, h5⟩ := h
  refine ⟨(hb _ _ (by omega)).trans h1, ⟨?_, ?_⟩, ⟨m, (hb _ _ (by omega)).trans h4⟩, Nat.lt_of_lt_of_le h5 hg.size⟩
  · obtain ⟨t, p, h⟩ := h2; exact ⟨t, p, (hb _ _ (by omega)).trans h⟩
  · obtain ⟨t, p, h⟩ := h3; exact ⟨t, p, (hb _ _ (by omega)).trans h⟩

theorem setOf_right {t : List UInt8} {X : List RS.Rg} (h : setOf t = some X) : RS.right X = true := by
  unfold setOf at h
  split at h
  · rename_i hx
    cases h
    exact hx.choose_spec.1
  · cases h

set_option maxHeartbeats 1000000 in
set_option maxRecDepth 100000 in
theorem setOrName_any (pb : Nat) (t : RP.Tok) (r : List RP.Tok) (c : Nat) (ht : RP.TokOk t) (w : World) (hK : KT w) (h : PS pb (t :: r) c w) :
    Calls Tryz.prog 216 #[.pointer (some ⟨pb, 0, none⟩)] w (Step pb c w (RP.setOrNameP setOf c (t :: r)) fun k v w' => KAt (New w) w' v k) := by
  have hl := h.lt
  have hI := is_any 3 pb t r c w h
  by_cases h3 : t.kind = 3
  · have e3 : decide (t.kind = 3) = true := by simpa using h3
    rw [e3] at hI
    obtain ⟨tb, off, cap, c0, c1, f0, f1, hc, hcm, t0, t1, t2, -, -, -⟩ := h.open
    cases hS : setOf t.text with
    | none =>
      have hP := setParse_none t.text ht.1 hS w hK
      have HR : Hid (RP.setOrNameP setOf c (t :: r) = .error ⟨refuseE 3 t c, t.at_⟩) := by show _ = _; rw [RP.setOrNameP, if_pos h3, hS]; rfl
      have HPS : Hid (PS pb (t :: r) c w) := h
      generalize (⟨t.text.toArray⟩ : ByteArray) = y at t2 hP
      clear h h3 e3 hS hK ht
      go_enter Tryz.func216, Tryz.ntmps216
      go_wp2_with fail
      refine hI.mono ?_
      rintro e w' ⟨rfl, hw⟩
      obtain rfl := hw.symm
      clear hI
      go_wp2_with fail
      refine hP.mono ?_
      rintro e w1 ⟨rfl, hb1⟩
      have hF := refuse_any 3 pb t r c w1 (HPS.out.below hb1)
      clear hP
      go_wp2_with fail
      refine hF.mono ?_
      rintro e w2 ⟨⟨b, rfl, k1, k2, k3⟩, hb2⟩
      go_wp2_with fail
      exact ⟨rfl, Step.map HR.out (grown_below hb1 _) (grown_below hb2 _) ⟨b, rfl, k1, k2, k3⟩⟩
    | some X =>
      have hP := setParse_some t.text X ht.1 hS w hK
      have HR : Hid (RP.setOrNameP setOf c (t :: r) = .ok (.lit t.at_ X, r)) := by show _ = _; rw [RP.setOrNameP, if_pos h3, hS]
      have HX : Hid (RS.right X = true) := setOf_right hS
      have HPS : Hid (PS pb (t :: r) c w) := h
      have H3 : Hid (t.kind = 3) := h3
      generalize (⟨t.text.toArray⟩ : ByteArray) = y at t2 hP
      clear h h3 e3 hS hK ht
      go_enter Tryz.func216, Tryz.ntmps216
      go_wp2_with fail
      refine hI.mono ?_
      rintro e w' ⟨rfl, hw⟩
      obtain rfl := hw.symm
      clear hI
      go_wp2_with fail
      refine hP.mono ?_
      rintro e w1 ⟨⟨v, rfl, hown⟩, hb1⟩
      obtain ⟨ao, cp, hve⟩ := own_slice hown
      subst hve
      have hF := take_yes pb t r c 3 H3.out w1 (HPS.out.below hb1)
      unfold tokV at hF
      have HO : Hid (Row (New w) w1 46 2 (.slice ao X.length cp) X.length (flat2 X)) := Row.new hown
      have hs1 := hb1.size
      clear hP hown c0 c1 f0 f1 t0 t1 t2
      go_wp2_with fail
      refine hF.mono ?_
      rintro e w2 ⟨rfl, hP2, hg2⟩
      have HP2 : Hid (PS pb r c w2) := hP2
      have HO2 : Hid (Row (New w) w2 46 2 (.slice ao X.length cp) X.length (flat2 X)) := HO.out.keep (Keeps.new hl hg2)
      have hs2 := hg2.size
      clear hP2 hF
      go_wp2_with fail
      go_ret
      refine Step.ok HR.out (((grown_below hb1 _).trans hg2).trans (World.grownBy_alloc _ _ _)) (HP2.out.grown (World.grownBy_alloc _ _ _)) ?_
      exact ⟨w2.heap.size, _, rfl, (by unfold New; omega), heap_alloc_new _ _, HO2.out.keep (Keeps.alloc _ _ _), HX.out⟩
  · have e3 : decide (t.kind = 3) = false := by simpa using h3
    rw [e3] at hI
    have hN := name_any pb t r c (by have := ht.1; omega) w h
    obtain ⟨tb, off, cap, c0, c1, f0, f1, hc, hcm, t0, t1, t2, -, -, -⟩ := h.open
    cases hn : RP.nameP c (t :: r) with
    | error b =>
      rw [hn] at hN
      have HR : Hid (RP.setOrNameP setOf c (t :: r) = .error b) := by show _ = _; rw [RP.setOrNameP, if_neg h3, hn]
      clear h h3 e3 hn hK ht
      go_enter Tryz.func216, Tryz.ntmps216
      go_wp2_with fail
      refine hI.mono ?_
      rintro e w' ⟨rfl, hw⟩
      obtain rfl := hw.symm
      clear hI
      go_wp2_with fail
      refine hN.mono ?_
      rintro e w1 ⟨hg, b', rfl, k1, k2, k3⟩
      go_wp2_with fail
      exact ⟨rfl, Step.map HR.out ⟨rfl, rfl, rfl, Nat.le_refl _, fun _ _ _ => rfl⟩ hg ⟨b', rfl, k1, k2, k3⟩⟩
    | ok x =>
      obtain ⟨x, q⟩ := x
      rw [hn] at hN
      have HR : Hid (RP.setOrNameP setOf c (t :: r) = .ok (.ref t.at_ x, q)) := by show _ = _; rw [RP.setOrNameP, if_neg h3, hn]
      clear h h3 e3 hn hK ht
      go_enter Tryz.func216, Tryz.ntmps216
      go_wp2_with fail
      refine hI.mono ?_
      rintro e w' ⟨rfl, hw⟩
      obtain rfl := hw.symm
      clear hI
      go_wp2_with fail
      refine hN.mono ?_
      rintro e w1 ⟨hg, hP1, v, rfl, rfl⟩
      have HP1 : Hid (PS pb q c w1) := hP1
      have hs1 := hg.size
      clear hP1 hN c0 c1 f0 f1 t0 t1 t2
      go_wp2_with fail
      go_ret
      refine Step.ok HR.out (hg.trans (World.grownBy_alloc _ _ _)) (HP1.out.grown (World.grownBy_alloc _ _ _)) ?_
      exact ⟨w1.heap.size, rfl, (by unfold New; omega), heap_alloc_new _ _⟩

end Go.Proofs.YtjbdlihlcoldlaaGreatDoor.Q

namespace Go.Proofs.YtjbdlihlcoldlaaGreatDoor.Q
open Go.RowKit Go.Shelf

/-- A method that reads a kind at this depth. -/
def KindC (fn d : Nat) (P : Nat → List RP.Tok → RP.Res RP.K) : Prop :=
  ∀ (pb c : Nat) (ts : List RP.Tok) (w : World), RP.Fine ts → 7 < pb → KT w → PS pb ts c w →
    Calls Tryz.prog fn #[.pointer (some ⟨pb, 0, none⟩), .int .i64 d] w (Step pb c w (P c ts) fun k v w' => KAt (New w) w' v k)

theorem KAt.ptr {ok : Nat → Prop} {w : World} {v : Value} {k : RP.K} (h : KAt ok w v k) : ∃ b, v = .pointer (some ⟨b, 0, none⟩) := by
  cases k with
  | lit => obtain ⟨b, _, h, _⟩ := h; exact ⟨b, h⟩
  | ref => obtain ⟨b, h, _⟩ := h; exact ⟨b, h⟩
  | bin => obtain ⟨b, _, _, h, _⟩ := h; exact ⟨b, h⟩
  | neg => obtain ⟨b, _, h, _⟩ := h; exact ⟨b, h⟩

theorem text_eq {t : RP.Tok} {x : List UInt8} (h : t.text = x) : (⟨t.text.toArray⟩ : ByteArray) = ⟨x.toArray⟩ := by rw [h]
theorem text_ne {t : RP.Tok} {x : List UInt8} (h : t.text ≠ x) : (⟨t.text.toArray⟩ : ByteArray) ≠ ⟨x.toArray⟩ := fun e => h (by simpa using e)

set_option maxHeartbeats 1000000 in
set_option maxRecDepth 100000 in
theorem oneKind_zero : KindC 201 9 (fun c => RP.oneKindP setOf c 0) := by
  intro pb c ts w hf h5 hK h
  dsimp only
  obtain ⟨t, r, rfl⟩ := hf.cons
  have hF := refuse_any 4 pb t r c w h
  have HR : Hid (RP.oneKindP setOf c 0 (t :: r) = .error ⟨refuseE 4 t c, t.at_⟩) := by show _ = _; rw [RP.oneKindP]; rfl
  clear h hf hK h5
  go_enter Tryz.func201, Tryz.ntmps201
  go_wp2_with fail
  refine hF.mono ?_
  rintro e w2 ⟨⟨b, rfl, k1, k2, k3⟩, hb2⟩
  go_wp2_with fail
  exact ⟨rfl, Step.map HR.out ⟨rfl, rfl, rfl, Nat.le_refl _, fun _ _ _ => rfl⟩ (grown_below hb2 _) ⟨b, rfl, k1, k2, k3⟩⟩

set_option maxHeartbeats 1000000 in
set_option maxRecDepth 100000 in
theorem oneKind_succ (d m : Nat) (hd : d ≤ 8) (h1 : KindC 201 (d + 1) (fun c => RP.oneKindP setOf c m)) (h2 : KindC 168 (d + 1) (fun c => RP.kindP (RP.oneKindP setOf c m))) : KindC 201 d (fun c => RP.oneKindP setOf c (m + 1)) := by
  intro pb c ts w hf h5 hK h
  dsimp only
  obtain ⟨t, r, rfl⟩ := hf.cons
  have hl := h.lt
  have hdc : ((d + 1 : Nat) : Int) = (d : Int) + 1 := by omega
  by_cases ht : t.text = [126]
  · have hA := accept_yes pb t r c ⟨#[126]⟩ (text_eq ht) w h
    obtain ⟨tb, off, cap, c0, c1, f0, f1, hc, hcm, t0, t1, t2, -, -, -⟩ := h.open
    have hq : RP.Fine r := hf.next (.inr (by rw [ht]; simp))
    have hC := fun w' hk hp => h1 pb c r w' hq h5 hk hp
    rw [hdc] at hC
    dsimp only at hC
    cases hr : RP.oneKindP setOf c m r with
    | error b =>
      have HR : Hid (RP.oneKindP setOf c (m + 1) (t :: r) = .error b) := by show _ = _; rw [RP.oneKindP, RP.hd, List.headD_cons, if_pos ht, List.tail_cons, hr]
      rw [hr] at hC
      have HK : Hid (KT w) := hK
      clear h hK hf hq ht hr h1 h2
      go_enter Tryz.func201, Tryz.ntmps201
      go_wp2_with fail
      refine hA.mono ?_
      rintro e w1 ⟨rfl, hp1, hg1⟩
      have hC1 := hC w1 (HK.out.grown hg1 h5) hp1
      clear hA hC hp1
      go_wp2_with fail
      refine hC1.mono ?_
      rintro e w2 ⟨hg2, b', rfl, k1, k2, k3⟩
      go_wp2_with fail
      exact ⟨rfl, Step.map HR.out hg1 hg2 ⟨b', rfl, k1, k2, k3⟩⟩
    | ok x =>
      obtain ⟨k, q⟩ := x
      have HR : Hid (RP.oneKindP setOf c (m + 1) (t :: r) = .ok (.neg t.at_ k, q)) := by show _ = _; rw [RP.oneKindP, RP.hd, List.headD_cons, if_pos ht, List.tail_cons, hr]
      rw [hr] at hC
      have HK : Hid (KT w) := hK
      clear h hK hf hq ht hr h1 h2
      go_enter Tryz.func201, Tryz.ntmps201
      go_wp2_with fail
      refine hA.mono ?_
      rintro e w1 ⟨rfl, hp1, hg1⟩
      have hC1 := hC w1 (HK.out.grown hg1 h5) hp1
      clear hA hC hp1 c0 c1 f0 f1 t0 t1 t2
      go_wp2_with fail
      refine hC1.mono ?_
      rintro e w2 ⟨hg2, hp2, v, rfl, hv⟩
      have HP2 : Hid (PS pb q c w2) := hp2
      have HV : Hid (KAt (New w1) w2 v k) := hv
      have hs1 := hg1.size
      have hs2 := hg2.size
      obtain ⟨vb, rfl⟩ := hv.ptr
      clear hp2 hv hC1
      go_wp2_with fail
      go_ret
      refine Step.ok HR.out ((hg1.trans hg2).trans (World.grownBy_alloc _ _ _)) (HP2.out.grown (World.grownBy_alloc _ _ _)) ?_
      exact ⟨w2.heap.size, _, rfl, (by unfold New; omega), heap_alloc_new _ _, (HV.out.mono (New.mono hs1)).keep (Keeps.alloc _ _ _)⟩
  · have hA := accept_no pb t r c ⟨#[126]⟩ (text_ne ht) w h
    by_cases ht2 : t.text = [40]
    · have hB := accept_yes pb t r c ⟨#[40]⟩ (text_eq ht2) w h
      obtain ⟨tb, off, cap, c0, c1, f0, f1, hc, hcm, t0, t1, t2, -, -, -⟩ := h.open
      have hq : RP.Fine r := hf.next (.inr (by rw [ht2]; simp))
      have hC := fun w' hk hp => h2 pb c r w' hq h5 hk hp
      rw [hdc] at hC
      dsimp only at hC
      cases hr : RP.kindP (RP.oneKindP setOf c m) r with
      | error b =>
        have HR : Hid (RP.oneKindP setOf c (m + 1) (t :: r) = .error b) := by show _ = _; rw [RP.oneKindP, RP.hd, List.headD_cons, if_neg ht, if_pos ht2, List.tail_cons, hr]
        rw [hr] at hC
        have HK : Hid (KT w) := hK
        clear h hK hf hq ht ht2 hr h1 h2
        go_enter Tryz.func201, Tryz.ntmps201
        go_wp2_with fail
        refine hA.mono ?_
        rintro e w' ⟨rfl, hw⟩
        obtain rfl := hw.symm
        clear hA
        go_wp2_with fail
        refine hB.mono ?_
        rintro e w1 ⟨rfl, hp1, hg1⟩
        have hC1 := hC w1 (HK.out.grown hg1 h5) hp1
        clear hB hC hp1
        go_wp2_with fail
        refine hC1.mono ?_
        rintro e w2 ⟨hg2, b', rfl, k1, k2, k3⟩
        go_wp2_with fail
        exact ⟨rfl, Step.map HR.out hg1 hg2 ⟨b', rfl, k1, k2, k3⟩⟩
      | ok x =>
        obtain ⟨k, q⟩ := x
        have hqf := (RP.kindP_fine (RP.oneKindP_fine setOf c m) _ _ _ hq hr).1
        obtain ⟨t3, q3, rfl⟩ := hqf.cons
        rw [hr] at hC
        by_cases h41 : t3.text = [41]
        · have HR : Hid (RP.oneKindP setOf c (m + 1) (t :: r) = .ok (k, q3)) := by show _ = _; rw [RP.oneKindP, RP.hd, List.headD_cons, if_neg ht, if_pos ht2, List.tail_cons, hr]; simp only [RP.markP, if_pos h41]
          have hM := fun w' hp => mark_yes pb t3 q3 c ⟨#[41]⟩ (text_eq h41) w' hp
          have HK : Hid (KT w) := hK
          clear h hK hf hq ht ht2 hr h1 h2 hqf h41
          go_enter Tryz.func201, Tryz.ntmps201
          go_wp2_with fail
          refine hA.mono ?_
          rintro e w' ⟨rfl, hw⟩
          obtain rfl := hw.symm
          clear hA
          go_wp2_with fail
          refine hB.mono ?_
          rintro e w1 ⟨rfl, hp1, hg1⟩
          have hC1 := hC w1 (HK.out.grown hg1 h5) hp1
          clear hB hC hp1 c0 c1 f0 f1 t0 t1 t2
          go_wp2_with fail
          refine hC1.mono ?_
          rintro e w2 ⟨hg2, hp2, v, rfl, hv⟩
          have hM2 := hM w2 hp2
          have HV : Hid (KAt (New w1) w2 v k) := hv
          have hs1 := hg1.size
          clear hp2 hv hC1 hM
          go_wp2_with fail
          refine hM2.mono ?_
          rintro e w3 ⟨rfl, hp3, hg3⟩
          have HP3 : Hid (PS pb q3 c w3) := hp3
          clear hp3 hM2
          go_wp2_with fail
          go_ret
          exact Step.ok HR.out ((hg1.trans hg2).trans hg3) HP3.out ((HV.out.mono (New.mono hs1)).keep (Keeps.new hl hg3))
        · have HR : Hid (RP.oneKindP setOf c (m + 1) (t :: r) = .error ⟨refuseE 3 t3 c, t3.at_⟩) := by show _ = _; rw [RP.oneKindP, RP.hd, List.headD_cons, if_neg ht, if_pos ht2, List.tail_cons, hr]; simp only [RP.markP, if_neg h41, refuse_eq]
          have hM := fun w' hp => mark_no pb t3 q3 c ⟨#[41]⟩ (text_ne h41) w' hp
          have HK : Hid (KT w) := hK
          clear h hK hf hq ht ht2 hr h1 h2 hqf h41
          go_enter Tryz.func201, Tryz.ntmps201
          go_wp2_with fail
          refine hA.mono ?_
          rintro e w' ⟨rfl, hw⟩
          obtain rfl := hw.symm
          clear hA
          go_wp2_with fail
          refine hB.mono ?_
          rintro e w1 ⟨rfl, hp1, hg1⟩
          have hC1 := hC w1 (HK.out.grown hg1 h5) hp1
          clear hB hC hp1 c0 c1 f0 f1 t0 t1 t2
          go_wp2_with fail
          refine hC1.mono ?_
          rintro e w2 ⟨hg2, hp2, v, rfl, hv⟩
          have hM2 := hM w2 hp2
          clear hp2 hv hC1 hM
          go_wp2_with fail
          refine hM2.mono ?_
          rintro e w3 ⟨⟨b, rfl, k1, k2, k3⟩, hb3⟩
          go_wp2_with fail
          exact ⟨rfl, Step.map HR.out (hg1.trans hg2) (grown_below hb3 _) ⟨b, rfl, k1, k2, k3⟩⟩
    · have hB := accept_no pb t r c ⟨#[40]⟩ (text_ne ht2) w h
      have hS := setOrName_any pb t r c (hf.2 t (by simp)) w hK h
      obtain ⟨tb, off, cap, c0, c1, f0, f1, hc, hcm, t0, t1, t2, -, -, -⟩ := h.open
      have he : RP.oneKindP setOf c (m + 1) (t :: r) = RP.setOrNameP setOf c (t :: r) := by rw [RP.oneKindP, RP.hd, List.headD_cons, if_neg ht, if_neg ht2]
      cases hr : RP.setOrNameP setOf c (t :: r) with
      | error b =>
        have HR : Hid (RP.oneKindP setOf c (m + 1) (t :: r) = .error b) := he.trans hr
        rw [hr] at hS
        clear h hK hf ht ht2 hr h1 h2 he
        go_enter Tryz.func201, Tryz.ntmps201
        go_wp2_with fail
        refine hA.mono ?_
        rintro e w' ⟨rfl, hw⟩
        obtain rfl := hw.symm
        clear hA
        go_wp2_with fail
        refine hB.mono ?_
        rintro e w' ⟨rfl, hw⟩
        obtain rfl := hw.symm
        clear hB
        go_wp2_with fail
        refine hS.mono ?_
        rintro e w2 ⟨hg2, b', rfl, k1, k2, k3⟩
        go_wp2_with fail
        exact ⟨rfl, Step.map HR.out ⟨rfl, rfl, rfl, Nat.le_refl _, fun _ _ _ => rfl⟩ hg2 ⟨b', rfl, k1, k2, k3⟩⟩
      | ok x =>
        obtain ⟨k, q⟩ := x
        have HR : Hid (RP.oneKindP setOf c (m + 1) (t :: r) = .ok (k, q)) := he.trans hr
        rw [hr] at hS
        clear h hK hf ht ht2 hr h1 h2 he
        go_enter Tryz.func201, Tryz.ntmps201
        go_wp2_with fail
        refine hA.mono ?_
        rintro e w' ⟨rfl, hw⟩
        obtain rfl := hw.symm
        clear hA
        go_wp2_with fail
        refine hB.mono ?_
        rintro e w' ⟨rfl, hw⟩
        obtain rfl := hw.symm
        clear hB
        go_wp2_with fail
        refine hS.mono ?_
        rintro e w2 ⟨hg2, hp2, v, rfl, hv⟩
        have HP2 : Hid (PS pb q c w2) := hp2
        have HV : Hid (KAt (New w) w2 v k) := hv
        clear hp2 hv hS c0 c1 f0 f1 t0 t1 t2
        go_wp2_with fail
        go_ret
        exact Step.ok HR.out hg2 HP2.out HV.out

end Go.Proofs.YtjbdlihlcoldlaaGreatDoor.Q

namespace RP

theorem kLoop_fuel {one : List Tok → Res K} (ho : Eats one) (a : Nat) : ∀ (f g : Nat) (k : K) (ts : List Tok), Fine ts → ts.length ≤ f → ts.length ≤ g → kLoop one a f k ts = kLoop one a g k ts := by
  intro f
  induction f with
  | zero => intro g k ts hf h1 _; obtain ⟨t, r, rfl⟩ := hf.cons; simp at h1
  | succ f ih =>
    intro g k ts hf h1 h2
    obtain ⟨t, q, rfl⟩ := hf.cons
    cases g with
    | zero => simp at h2
    | succ g =>
      rw [kLoop, kLoop]
      by_cases hc : codeOf (hd (t :: q)).text = 0
      · rw [if_pos hc, if_pos hc]
      · rw [if_neg hc, if_neg hc]
        have hq : Fine q := hf.next (.inr (fun e => hc (by simp only [hd, List.headD_cons]; rw [e]; rfl)))
        cases h3 : one (t :: q).tail with
        | error b => rfl
        | ok x =>
          obtain ⟨k2, r⟩ := x
          have := ho _ _ _ hq h3
          simp only [List.length_cons] at h1 h2
          exact ih g _ _ this.1 (by omega) (by omega)

end RP
namespace Go.Proofs.YtjbdlihlcoldlaaGreatDoor.Q
open Go.RowKit Go.Shelf

/-- How many tokens are left. -/
def cnt (pb : Nat) (w : World) : Nat := match w.cell? ⟨pb, 0, none⟩ with | some (.slice _ n _) => n | _ => 0

theorem PS.cnt {pb : Nat} {ts : List RP.Tok} {c : Nat} {w : World} (h : PS pb ts c w) : cnt pb w = ts.length := by
  obtain ⟨tb, off, cap, h1, _⟩ := h
  have : w.cell? ⟨pb, 0, none⟩ = some (.slice (some ⟨tb, off, none⟩) ts.length cap) := by
    simp [World.cell?, h1]
  unfold Q.cnt
  rw [this]

set_option maxHeartbeats 1000000 in
set_option maxRecDepth 100000 in
theorem kind_of_one (d m : Nat) (h1 : KindC 201 d (fun c => RP.oneKindP setOf c m)) : KindC 168 d (fun c => RP.kindP (RP.oneKindP setOf c m)) := by
  intro pb c ts w hf h5 hK h
  dsimp only
  obtain ⟨t, r, rfl⟩ := hf.cons
  have hl := h.lt
  have hC := h1 pb c (t :: r) w hf h5 hK h
  dsimp only at hC
  obtain ⟨tb, off, cap, c0, c1, f0, f1, hc, hcm, t0, t1, t2, -, -, -⟩ := h.open
  have hE := RP.oneKindP_fine setOf c m
  cases hr : RP.oneKindP setOf c m (t :: r) with
  | error b =>
    have HR : Hid (RP.kindP (RP.oneKindP setOf c m) (t :: r) = .error b) := by show _ = _; rw [RP.kindP, hr]
    rw [hr] at hC
    clear h hK hf hr h1 hE
    go_enter Tryz.func168, Tryz.ntmps168
    go_wp2_with fail
    refine hC.mono ?_
    rintro e w2 ⟨hg2, b', rfl, k1, k2, k3⟩
    go_wp2_with fail
    exact ⟨rfl, Step.map HR.out ⟨rfl, rfl, rfl, Nat.le_refl _, fun _ _ _ => rfl⟩ hg2 ⟨b', rfl, k1, k2, k3⟩⟩
  | ok x =>
    obtain ⟨k, q⟩ := x
    have hqf := (hE _ _ _ hf hr).1
    have HR : Hid (RP.kindP (RP.oneKindP setOf c m) (t :: r) = RP.kLoop (RP.oneKindP setOf c m) t.at_ q.length k q) := by show _ = _; rw [RP.kindP, hr]; rfl
    rw [hr] at hC
    have HK : Hid (KT w) := hK
    have H1 : Hid (KindC 201 d (fun c => RP.oneKindP setOf c m)) := h1
    have HE : Hid (RP.Eats (RP.oneKindP setOf c m)) := hE
    clear h hK hf hr h1 hE
    obtain ⟨t3, q3, rfl⟩ := hqf.cons
    go_enter Tryz.func168, Tryz.ntmps168
    go_wp2_with fail
    refine hC.mono ?_
    rintro e w2 ⟨hg2, hp2, v, rfl, hv⟩
    have HP2 : Hid (PS pb (t3 :: q3) c w2) := hp2
    have HV : Hid (KAt (New w) w2 v k) := hv
    obtain ⟨tb, off, cap, c0, c1, f0, f1, hc, hcm, t0, t1, t2, -, -, -⟩ := hp2.open
    have hO := codeOf_any t3.text
    obtain ⟨vb, rfl⟩ := hv.ptr
    clear hp2 hv hC
    go_wp2_with fail
    refine (hO w2).mono ?_
    rintro e w3 ⟨rfl, hw⟩
    obtain rfl := hw.symm
    clear hO
    go_wp2_with fail
    go_loopw [6, 7] (fun v i wr => ∃ (kk : RP.K) (u : RP.Tok) (s : List RP.Tok), RP.Fine (u :: s) ∧ i = .int .i64 (RP.codeOf u.text : Nat) ∧ KAt (New w) wr v kk ∧ PS pb (u :: s) c wr ∧ w.grownBy wr (some pb) ∧ RP.kindP (RP.oneKindP setOf c m) (t :: r) = RP.kLoop (RP.oneKindP setOf c m) t.at_ (u :: s).length kk (u :: s)) (fun _ _ wr => cnt pb wr)
    case atStart => exact ⟨k, t3, q3, hqf, rfl, HV.out, HP2.out, hg2, HR.out⟩
    case round =>
      obtain ⟨kk, u, s, hfu, hi, hkv, hp, hg, hR⟩ := hrel
      obtain ⟨vb2, rfl⟩ := hkv.ptr
      by_cases hcode : RP.codeOf u.text = 0
      · have HR2 : Hid (RP.kindP (RP.oneKindP setOf c m) (t :: r) = .ok (kk, u :: s)) := by show _ = _; rw [hR, List.length_cons, RP.kLoop, if_pos (by exact hcode)]
        have HPr : Hid (PS pb (u :: s) c wr) := hp
        have HKr : Hid (KAt (New w) wr (.pointer (some ⟨vb2, 0, none⟩)) kk) := hkv
        rw [hcode] at hi
        subst hi
        clear hp hkv hR hcode
        go_wp2_with fail
        go_ret
        exact Step.ok HR2.out hg HPr.out HKr.out
      · have h4 : u.kind = 4 := (hfu.2 u (by simp)).2.2.2 hcode
        have hs : RP.Fine s := hfu.next (.inr (fun e => hcode (by rw [e]; rfl)))
        have hT := take_yes pb u s c 4 h4 wr hp
        unfold tokV at hT
        have hC := fun w' hk hp' => H1.out pb c s w' hs h5 hk hp'
        dsimp only at hC
        obtain ⟨n, hn⟩ : ∃ n, n = RP.codeOf u.text := ⟨_, rfl⟩
        rw [← hn] at hi hcode
        subst hi
        have hne : ((n : Int) == 0) = false := by simp; omega
        have hne' : (n : Int) ≠ 0 := by omega
        have hcnt := hp.cnt
        have hlr := hp.lt
        cases hr : RP.oneKindP setOf c m s with
        | error b =>
          have HR2 : Hid (RP.kindP (RP.oneKindP setOf c m) (t :: r) = .error b) := by show _ = _; rw [hR, List.length_cons, RP.kLoop, if_neg (by show ¬ RP.codeOf u.text = 0; rw [← hn]; exact hcode), List.tail_cons, hr]
          rw [hr] at hC
          have HKw := HK.out.grown hg h5
          have HKr : Hid (KT wr) := HKw
          clear hp hkv hR hcode HKw hn hr hcnt
          go_wp2_with fail
          refine hT.mono ?_
          rintro e w4 ⟨rfl, hp4, hg4⟩
          have hC1 := hC w4 (HKr.out.grown hg4 h5) hp4
          clear hp4 hT hC
          go_wp2_with fail
          refine hC1.mono ?_
          rintro e w5 ⟨hg5, b', rfl, k1, k2, k3⟩
          go_wp2_with fail
          exact ⟨rfl, Step.map HR2.out (hg.trans hg4) hg5 ⟨b', rfl, k1, k2, k3⟩⟩
        | ok x =>
          obtain ⟨k2, q2⟩ := x
          have he := HE.out _ _ _ hs hr
          have HR2 : Hid (RP.kindP (RP.oneKindP setOf c m) (t :: r) = RP.kLoop (RP.oneKindP setOf c m) t.at_ q2.length (.bin n t.at_ kk k2) q2) := by
            show _ = _
            rw [hR, List.length_cons, RP.kLoop, if_neg (by show ¬ RP.codeOf u.text = 0; rw [← hn]; exact hcode), List.tail_cons, hr, hn]
            exact RP.kLoop_fuel HE.out _ _ _ _ _ he.1 (by omega) (by omega)
          rw [hr] at hC
          have hq2 := he.1
          have hql := he.2
          obtain ⟨u2, s2, rfl⟩ := hq2.cons
          have HKw := HK.out.grown hg h5
          have HKr : Hid (KT wr) := HKw
          have HKk : Hid (KAt (New w) wr (.pointer (some ⟨vb2, 0, none⟩)) kk) := hkv
          have hO := codeOf_any u2.text
          clear hp hkv hR hcode HKw hn hr he
          go_wp2_with fail
          refine hT.mono ?_
          rintro e w4 ⟨rfl, hp4, hg4⟩
          have hC1 := hC w4 (HKr.out.grown hg4 h5) hp4
          clear hp4 hT hC
          go_wp2_with fail
          refine hC1.mono ?_
          rintro e w5 ⟨hg5, hp5, v5, rfl, hv5⟩
          obtain ⟨vb5, rfl⟩ := hv5.ptr
          have hgA : w5.grownBy (w5.alloc (.cells #[.int .i64 n, .int .i64 t.at_, .slice none 0 0, .string ⟨#[]⟩, .pointer (some ⟨vb2, 0, none⟩), .pointer (some ⟨vb5, 0, none⟩)] 48)) none := World.grownBy_alloc _ _ _
          have hgB : w5.grownBy (w5.alloc (.cells #[.int .i64 n, .int .i64 t.at_, .slice none 0 0, .string ⟨#[]⟩, .pointer (some ⟨vb2, 0, none⟩), .pointer (some ⟨vb5, 0, none⟩)] 48)) (some pb) := World.grownBy_alloc _ _ _
          have hp6 := hp5.grown hgA
          obtain ⟨tb, off, cap, c0, c1, f0, f1, hc, hcm, t0, t1, t2, -, -, -⟩ := hp6.open
          have HP6 : Hid (PS pb (u2 :: s2) c (w5.alloc (.cells #[.int .i64 n, .int .i64 t.at_, .slice none 0 0, .string ⟨#[]⟩, .pointer (some ⟨vb2, 0, none⟩), .pointer (some ⟨vb5, 0, none⟩)] 48))) := hp6
          have hs4 := hg4.size
          have hs5 := hg5.size
          have hsr := hg.size
          have HKV : Hid (KAt (New w) (w5.alloc (.cells #[.int .i64 n, .int .i64 t.at_, .slice none 0 0, .string ⟨#[]⟩, .pointer (some ⟨vb2, 0, none⟩), .pointer (some ⟨vb5, 0, none⟩)] 48)) (.pointer (some ⟨w5.heap.size, 0, none⟩)) (.bin n t.at_ kk k2)) :=
            ⟨w5.heap.size, _, _, rfl, (by unfold New; omega), heap_alloc_new _ _, ((HKk.out.keep (Keeps.new hl hg4)).keep (Keeps.new hl hg5)).keep (Keeps.alloc _ _ _), (hv5.mono (New.mono (by omega))).keep (Keeps.alloc _ _ _)⟩
          have HG : Hid (w.grownBy (w5.alloc (.cells #[.int .i64 n, .int .i64 t.at_, .slice none 0 0, .string ⟨#[]⟩, .pointer (some ⟨vb2, 0, none⟩), .pointer (some ⟨vb5, 0, none⟩)] 48)) (some pb)) := ((hg.trans hg4).trans hg5).trans hgB
          clear hp5 hv5 hC1 hgA hgB hp6
          go_wp2_with fail
          refine (hO _).mono ?_
          rintro e w6 ⟨rfl, hw⟩
          obtain rfl := hw.symm
          clear hO
          go_wp2_with fail
          refine ⟨⟨.bin n t.at_ kk k2, u2, s2, hq2, rfl, HKV.out, HP6.out, HG.out, HR2.out⟩, ?_⟩
          rw [HP6.out.cnt, hcnt]
          simp only [List.length_cons] at hql ⊢
          omega

/-- Both, at every depth. -/
theorem kinds_any : ∀ (m d : Nat), d + m = 9 → KindC 201 d (fun c => RP.oneKindP setOf c m) := by
  intro m
  induction m with
  | zero => intro d hd; obtain rfl : d = 9 := by omega
            exact oneKind_zero
  | succ m ih =>
    intro d hd
    have h := ih (d + 1) (by omega)
    exact oneKind_succ d m (by omega) h (kind_of_one _ _ h)

theorem kind_any (d m : Nat) (h : d + m = 9) : KindC 168 d (fun c => RP.kindP (RP.oneKindP setOf c m)) := kind_of_one d m (kinds_any m d h)

end Go.Proofs.YtjbdlihlcoldlaaGreatDoor.Q

namespace Go.Proofs.YtjbdlihlcoldlaaGreatDoor.Q
open Go.RowKit Go.Shelf

/-- These pointers lead to this pattern (one), or to these patterns. -/
def PAt (ok : Nat → Prop) (w : World) : List Value → RP.Pt → Prop
  | vs, .one k => ∃ b kv, vs = [.pointer (some ⟨b, 0, none⟩)] ∧ ok b ∧ w.heap[b]? = some (.cells #[.int .i64 1, kv, .slice none 0 0, .int .i64 0, .int .i64 0] 39) ∧ KAt ok w kv k
  | vs, .any => ∃ b, vs = [.pointer (some ⟨b, 0, none⟩)] ∧ ok b ∧ w.heap[b]? = some (.cells #[.int .i64 2, .pointer none, .slice none 0 0, .int .i64 0, .int .i64 0] 39)
  | vs, .edge => ∃ b, vs = [.pointer (some ⟨b, 0, none⟩)] ∧ ok b ∧ w.heap[b]? = some (.cells #[.int .i64 3, .pointer none, .slice none 0 0, .int .i64 0, .int .i64 0] 39)
  | vs, .cat ps => ∃ b sv ws, vs = [.pointer (some ⟨b, 0, none⟩)] ∧ ok b ∧ w.heap[b]? = some (.cells #[.int .i64 4, .pointer none, sv, .int .i64 0, .int .i64 0] 39) ∧ Row ok w 35 1 sv ws.length ws ∧ PAt ok w ws ps
  | vs, .alt ps => ∃ b sv ws, vs = [.pointer (some ⟨b, 0, none⟩)] ∧ ok b ∧ w.heap[b]? = some (.cells #[.int .i64 5, .pointer none, sv, .int .i64 0, .int .i64 0] 39) ∧ Row ok w 35 1 sv ws.length ws ∧ PAt ok w ws ps
  | vs, .many p lo hi => ∃ b sv ws, vs = [.pointer (some ⟨b, 0, none⟩)] ∧ ok b ∧ w.heap[b]? = some (.cells #[.int .i64 6, .pointer none, sv, .int .i64 lo, .int .i64 hi] 39) ∧ Row ok w 35 1 sv 1 ws ∧ PAt ok w ws p
  | vs, .nil => vs = []
  | vs, .cons p ps => ∃ v us, vs = v :: us ∧ PAt ok w [v] p ∧ PAt ok w us ps

theorem PAt.keep {ok : Nat → Prop} {w w' : World} (hk : Keeps ok w w') : ∀ {p : RP.Pt} {vs : List Value}, PAt ok w vs p → PAt ok w' vs p := by
  intro p
  induction p with
  | one k =>
    rintro vs ⟨b, kv, rfl, h1, h2, h3⟩
    exact ⟨b, kv, rfl, h1, (hk b h1 (lt_of_block h2)).trans h2, h3.keep hk⟩
  | any =>
    rintro vs ⟨b, rfl, h1, h2⟩
    exact ⟨b, rfl, h1, (hk b h1 (lt_of_block h2)).trans h2⟩
  | edge =>
    rintro vs ⟨b, rfl, h1, h2⟩
    exact ⟨b, rfl, h1, (hk b h1 (lt_of_block h2)).trans h2⟩
  | cat ps ih =>
    rintro vs ⟨b, sv, ws, rfl, h1, h2, h3, h4⟩
    exact ⟨b, sv, ws, rfl, h1, (hk b h1 (lt_of_block h2)).trans h2, h3.keep hk, ih h4⟩
  | alt ps ih =>
    rintro vs ⟨b, sv, ws, rfl, h1, h2, h3, h4⟩
    exact ⟨b, sv, ws, rfl, h1, (hk b h1 (lt_of_block h2)).trans h2, h3.keep hk, ih h4⟩
  | many p lo hi ih =>
    rintro vs ⟨b, sv, ws, rfl, h1, h2, h3, h4⟩
    exact ⟨b, sv, ws, rfl, h1, (hk b h1 (lt_of_block h2)).trans h2, h3.keep hk, ih h4⟩
  | nil => exact fun h => h
  | cons p ps ih1 ih2 =>
    rintro vs ⟨v, us, rfl, h1, h2⟩
    exact ⟨v, us, rfl, ih1 h1, ih2 h2⟩

theorem PAt.mono {ok ok' : Nat → Prop} {w : World} (hk : ∀ b, b < w.heap.size → ok b → ok' b) : ∀ {p : RP.Pt} {vs : List Value}, PAt ok w vs p → PAt ok' w vs p := by
  intro p
  induction p with
  | one k =>
    rintro vs ⟨b, kv, rfl, h1, h2, h3⟩
    exact ⟨b, kv, rfl, hk b (lt_of_block h2) h1, h2, h3.mono hk⟩
  | any =>
    rintro vs ⟨b, rfl, h1, h2⟩
    exact ⟨b, rfl, hk b (lt_of_block h2) h1, h2⟩
  | edge =>
    rintro vs ⟨b, rfl, h1, h2⟩
    exact ⟨b, rfl, hk b (lt_of_block h2) h1, h2⟩
  | cat ps ih =>
    rintro vs ⟨b, sv, ws, rfl, h1, h2, h3, h4⟩
    exact ⟨b, sv, ws, rfl, hk b (lt_of_block h2) h1, h2, h3.mono hk, ih h4⟩
  | alt ps ih =>
    rintro vs ⟨b, sv, ws, rfl, h1, h2, h3, h4⟩
    exact ⟨b, sv, ws, rfl, hk b (lt_of_block h2) h1, h2, h3.mono hk, ih h4⟩
  | many p lo hi ih =>
    rintro vs ⟨b, sv, ws, rfl, h1, h2, h3, h4⟩
    exact ⟨b, sv, ws, rfl, hk b (lt_of_block h2) h1, h2, h3.mono hk, ih h4⟩
  | nil => exact fun h => h
  | cons p ps ih1 ih2 =>
    rintro vs ⟨v, us, rfl, h1, h2⟩
    exact ⟨v, us, rfl, ih1 h1, ih2 h2⟩

/-- These pointers lead each to its pattern. -/
def PsAt (ok : Nat → Prop) (w : World) (vs : List Value) (ps : List RP.Pt) : Prop := PAt ok w vs (RP.listOf ps)

theorem PsAt.snoc {ok : Nat → Prop} {w : World} {v : Value} {p : RP.Pt} : ∀ {ps : List RP.Pt} {vs : List Value}, PsAt ok w vs ps → PAt ok w [v] p → PsAt ok w (vs ++ [v]) (ps ++ [p])
  | [], vs, h, hv => by
    obtain rfl : vs = [] := h
    exact ⟨v, [], rfl, hv, rfl⟩
  | p :: ps, vs, ⟨u, us, hu, h1, h2⟩, hv => by
    subst hu
    exact ⟨u, us ++ [v], rfl, h1, PsAt.snoc (ps := ps) h2 hv⟩

theorem PsAt.length {ok : Nat → Prop} {w : World} : ∀ {ps : List RP.Pt} {vs : List Value}, PsAt ok w vs ps → vs.length = ps.length
  | [], vs, h => by obtain rfl : vs = [] := h; rfl
  | p :: ps, vs, ⟨u, us, hu, h1, h2⟩ => by
    subst hu
    simp [PsAt.length (ps := ps) h2]

set_option maxHeartbeats 1000000 in
set_option maxRecDepth 100000 in
theorem together_one (code g cap : Nat) (v : Value) (w : World) (hc : w.cell? ⟨g, 0, none⟩ = some v) :
    Calls Tryz.prog 204 #[.int .i64 code, .slice (some ⟨g, 0, none⟩) 1 cap] w fun e w' => e = .returned v ∧ w' = w := by
  go_enter Tryz.func204, Tryz.ntmps204
  go_wp2_with fail
  go_ret
  exact ⟨rfl, rfl⟩

set_option maxHeartbeats 1000000 in
set_option maxRecDepth 100000 in
theorem together_more (code n cap : Nat) (o : Option Addr) (hn : n ≠ 1) (w : World) :
    Calls Tryz.prog 204 #[.int .i64 code, .slice o n cap] w fun e w' => e = .returned (.pointer (some ⟨w.heap.size, 0, none⟩)) ∧ w' = w.alloc (.cells #[.int .i64 code, .pointer none, .slice o n cap, .int .i64 0, .int .i64 0] 39) := by
  have hne : ((n : Int) == 1) = false := by simp; omega
  have hne' : (n : Int) ≠ 1 := by omega
  go_enter Tryz.func204, Tryz.ntmps204
  go_wp2_with fail
  go_ret
  exact ⟨rfl, rfl⟩

def IsPtr (v : Value) : Prop := ∃ b, v = .pointer (some ⟨b, 0, none⟩)

theorem row_first {ok : Nat → Prop} {w : World} {e : TypeId} {sv v : Value} (h : Row ok w e 1 sv 1 [v]) : ∃ g cap, sv = .slice (some ⟨g, 0, none⟩) 1 cap ∧ w.cell? ⟨g, 0, none⟩ = some v := by
  obtain ⟨⟨_, ⟨_, h0⟩ | ⟨g, cap, cur, rfl, _, hh, _, _, hcs, ht⟩⟩, _⟩ := h
  · cases h0
  · refine ⟨g, cap, rfl, ?_⟩
    have : cur[0]? = some v := by
      have h1 : (cur.toList.take (1 * 1))[0]? = some v := by rw [ht]; rfl
      simpa using h1
    simp [World.cell?, hh, this]

theorem togetherP_more (code : Nat) (ps : List RP.Pt) (h : ps.length ≠ 1) : RP.togetherP code ps = if code = 4 then .cat (RP.listOf ps) else .alt (RP.listOf ps) := by
  match ps with
  | [] => rfl
  | [p] => exact absurd rfl h
  | p :: q :: r => rfl

theorem together_any (code : Nat) (hcode : code = 4 ∨ code = 5) (W0 w : World) (h0 : W0.heap.size ≤ w.heap.size) (sv : Value) (vs : List Value) (ps : List RP.Pt) (hr : Row (New W0) w 35 1 sv vs.length vs) (hp : PsAt (New W0) w vs ps) (hvs : ∀ v ∈ vs, IsPtr v) :
    Calls Tryz.prog 204 #[.int .i64 code, sv] w fun e w' => (∃ v, e = .returned v ∧ IsPtr v ∧ PAt (New W0) w' [v] (RP.togetherP code ps)) ∧ w.grownBy w' none := by
  have hlen := hp.length
  by_cases hn : ps.length = 1
  · obtain ⟨p, rfl⟩ := List.length_eq_one_iff.1 hn
    obtain ⟨v, us, rfl, h1, h2⟩ := hp
    obtain rfl : us = [] := h2
    obtain ⟨g, cap, rfl, hc⟩ := row_first hr
    refine (together_one code g cap v w hc).mono ?_
    rintro e w' ⟨rfl, rfl⟩
    exact ⟨⟨v, rfl, hvs v (by simp), h1⟩, rfl, rfl, rfl, Nat.le_refl _, fun _ _ _ => rfl⟩
  · obtain ⟨o, cap, rfl⟩ := own_slice hr.1
    refine (together_more code vs.length cap o (by omega) w).mono ?_
    rintro e w' ⟨rfl, rfl⟩
    refine ⟨⟨_, rfl, ⟨_, rfl⟩, ?_⟩, World.grownBy_alloc _ _ _⟩
    rw [togetherP_more _ _ hn]
    rcases hcode with rfl | rfl
    · exact ⟨w.heap.size, _, vs, rfl, h0, heap_alloc_new _ _, hr.keep (Keeps.alloc _ _ _), hp.keep (Keeps.alloc _ _ _)⟩
    · exact ⟨w.heap.size, _, vs, rfl, h0, heap_alloc_new _ _, hr.keep (Keeps.alloc _ _ _), hp.keep (Keeps.alloc _ _ _)⟩

/-- A method that reads a pattern at this depth. -/
def PatC (fn d : Nat) (P : Nat → List RP.Tok → RP.Res RP.Pt) : Prop :=
  ∀ (pb c : Nat) (ts : List RP.Tok) (w : World), RP.Fine ts → 7 < pb → KT w → PS pb ts c w →
    Calls Tryz.prog fn #[.pointer (some ⟨pb, 0, none⟩), .int .i64 d] w (Step pb c w (P c ts) fun p v w' => IsPtr v ∧ PAt (New w) w' [v] p)

set_option maxHeartbeats 2000000 in
set_option maxRecDepth 100000 in
theorem unit_any (d m : Nat) (hd : d ≤ 9) (hP : PatC 169 (d + 1) (fun c => RP.patP setOf c m)) : PatC 236 d (fun c => RP.unitP setOf c (RP.patP setOf c m)) := by
  intro pb c ts w hf h5 hK h
  dsimp only
  obtain ⟨t, r, rfl⟩ := hf.cons
  have hl := h.lt
  have hdc : ((d + 1 : Nat) : Int) = (d : Int) + 1 := by omega
  have hdd : (d : Int) ≤ 9 := by omega
  by_cases ht : t.text = [46]
  · have hA := accept_yes pb t r c ⟨#[46]⟩ (text_eq ht) w h
    have HR : Hid (RP.unitP setOf c (RP.patP setOf c m) (t :: r) = .ok (.any, r)) := by show _ = _; rw [RP.unitP, RP.hd, List.headD_cons, if_pos ht, List.tail_cons]
    clear h hK hf ht hP
    go_enter Tryz.func236, Tryz.ntmps236
    go_wp2_with fail
    refine hA.mono ?_
    rintro e w1 ⟨rfl, hp1, hg1⟩
    have HP1 : Hid (PS pb r c w1) := hp1
    have hs1 := hg1.size
    clear hA hp1
    go_wp2_with fail
    go_ret
    exact Step.ok HR.out (hg1.trans (World.grownBy_alloc _ _ _)) (HP1.out.grown (World.grownBy_alloc _ _ _)) ⟨⟨_, rfl⟩, w1.heap.size, rfl, hs1, heap_alloc_new _ _⟩
  have hA := accept_no pb t r c ⟨#[46]⟩ (text_ne ht) w h
  by_cases ht2 : t.text = [36]
  · have hB := accept_yes pb t r c ⟨#[36]⟩ (text_eq ht2) w h
    have HR : Hid (RP.unitP setOf c (RP.patP setOf c m) (t :: r) = .ok (.edge, r)) := by show _ = _; rw [RP.unitP, RP.hd, List.headD_cons, if_neg ht, if_pos ht2, List.tail_cons]
    clear h hK hf ht ht2 hP
    go_enter Tryz.func236, Tryz.ntmps236
    go_wp2_with fail
    refine hA.mono ?_
    rintro e w' ⟨rfl, hw⟩
    obtain rfl := hw.symm
    clear hA
    go_wp2_with fail
    refine hB.mono ?_
    rintro e w1 ⟨rfl, hp1, hg1⟩
    have HP1 : Hid (PS pb r c w1) := hp1
    have hs1 := hg1.size
    clear hB hp1
    go_wp2_with fail
    go_ret
    exact Step.ok HR.out (hg1.trans (World.grownBy_alloc _ _ _)) (HP1.out.grown (World.grownBy_alloc _ _ _)) ⟨⟨_, rfl⟩, w1.heap.size, rfl, hs1, heap_alloc_new _ _⟩
  have hB := accept_no pb t r c ⟨#[36]⟩ (text_ne ht2) w h
  by_cases ht3 : t.text = [40]
  · have hD := accept_yes pb t r c ⟨#[40]⟩ (text_eq ht3) w h
    have hq : RP.Fine r := hf.next (.inr (by rw [ht3]; simp))
    have hC := fun w' hk hp => hP pb c r w' hq h5 hk hp
    rw [hdc] at hC
    dsimp only at hC
    cases hr : RP.patP setOf c m r with
    | error b =>
      have HR : Hid (RP.unitP setOf c (RP.patP setOf c m) (t :: r) = .error b) := by show _ = _; rw [RP.unitP, RP.hd, List.headD_cons, if_neg ht, if_neg ht2, if_pos ht3, List.tail_cons, hr]
      rw [hr] at hC
      have HK : Hid (KT w) := hK
      clear h hK hf hq ht ht2 ht3 hr hP
      go_enter Tryz.func236, Tryz.ntmps236
      go_wp2_with fail
      refine hA.mono ?_
      rintro e w' ⟨rfl, hw⟩
      obtain rfl := hw.symm
      clear hA
      go_wp2_with fail
      refine hB.mono ?_
      rintro e w' ⟨rfl, hw⟩
      obtain rfl := hw.symm
      clear hB
      go_wp2_with fail
      refine hD.mono ?_
      rintro e w1 ⟨rfl, hp1, hg1⟩
      have hC1 := hC w1 (HK.out.grown hg1 h5) hp1
      clear hD hC hp1
      go_wp2_with fail
      refine hC1.mono ?_
      rintro e w2 ⟨hg2, b', rfl, k1, k2, k3⟩
      go_wp2_with fail
      exact ⟨rfl, Step.map HR.out hg1 hg2 ⟨b', rfl, k1, k2, k3⟩⟩
    | ok x =>
      obtain ⟨k, q⟩ := x
      have hqf := (RP.patP_fine m _ _ _ hq hr).1
      obtain ⟨t3, q3, rfl⟩ := hqf.cons
      rw [hr] at hC
      by_cases h41 : t3.text = [41]
      · have HR : Hid (RP.unitP setOf c (RP.patP setOf c m) (t :: r) = .ok (k, q3)) := by show _ = _; rw [RP.unitP, RP.hd, List.headD_cons, if_neg ht, if_neg ht2, if_pos ht3, List.tail_cons, hr]; simp only [RP.markP, if_pos h41]
        have hM := fun w' hp => mark_yes pb t3 q3 c ⟨#[41]⟩ (text_eq h41) w' hp
        have HK : Hid (KT w) := hK
        clear h hK hf hq ht ht2 ht3 hr hP hqf h41
        go_enter Tryz.func236, Tryz.ntmps236
        go_wp2_with fail
        refine hA.mono ?_
        rintro e w' ⟨rfl, hw⟩
        obtain rfl := hw.symm
        clear hA
        go_wp2_with fail
        refine hB.mono ?_
        rintro e w' ⟨rfl, hw⟩
        obtain rfl := hw.symm
        clear hB
        go_wp2_with fail
        refine hD.mono ?_
        rintro e w1 ⟨rfl, hp1, hg1⟩
        have hC1 := hC w1 (HK.out.grown hg1 h5) hp1
        have hs1 := hg1.size
        clear hD hC hp1
        go_wp2_with fail
        refine hC1.mono ?_
        rintro e w2 ⟨hg2, hp2, v, rfl, ⟨vb, rfl⟩, hv⟩
        have hM2 := hM w2 hp2
        have HV : Hid (PAt (New w1) w2 [.pointer (some ⟨vb, 0, none⟩)] k) := hv
        clear hp2 hv hC1 hM
        go_wp2_with fail
        refine hM2.mono ?_
        rintro e w3 ⟨rfl, hp3, hg3⟩
        have HP3 : Hid (PS pb q3 c w3) := hp3
        clear hp3 hM2
        go_wp2_with fail
        go_ret
        exact Step.ok HR.out ((hg1.trans hg2).trans hg3) HP3.out ⟨⟨_, rfl⟩, (HV.out.mono (New.mono hs1)).keep (Keeps.new hl hg3)⟩
      · have HR : Hid (RP.unitP setOf c (RP.patP setOf c m) (t :: r) = .error ⟨refuseE 3 t3 c, t3.at_⟩) := by show _ = _; rw [RP.unitP, RP.hd, List.headD_cons, if_neg ht, if_neg ht2, if_pos ht3, List.tail_cons, hr]; simp only [RP.markP, if_neg h41, refuse_eq]
        have hM := fun w' hp => mark_no pb t3 q3 c ⟨#[41]⟩ (text_ne h41) w' hp
        have HK : Hid (KT w) := hK
        clear h hK hf hq ht ht2 ht3 hr hP hqf h41
        go_enter Tryz.func236, Tryz.ntmps236
        go_wp2_with fail
        refine hA.mono ?_
        rintro e w' ⟨rfl, hw⟩
        obtain rfl := hw.symm
        clear hA
        go_wp2_with fail
        refine hB.mono ?_
        rintro e w' ⟨rfl, hw⟩
        obtain rfl := hw.symm
        clear hB
        go_wp2_with fail
        refine hD.mono ?_
        rintro e w1 ⟨rfl, hp1, hg1⟩
        have hC1 := hC w1 (HK.out.grown hg1 h5) hp1
        clear hD hC hp1
        go_wp2_with fail
        refine hC1.mono ?_
        rintro e w2 ⟨hg2, hp2, v, rfl, ⟨vb, rfl⟩, hv⟩
        have hM2 := hM w2 hp2
        clear hp2 hv hC1 hM
        go_wp2_with fail
        refine hM2.mono ?_
        rintro e w3 ⟨⟨b, rfl, k1, k2, k3⟩, hb3⟩
        go_wp2_with fail
        exact ⟨rfl, Step.map HR.out (hg1.trans hg2) (grown_below hb3 _) ⟨b, rfl, k1, k2, k3⟩⟩
  have hD := accept_no pb t r c ⟨#[40]⟩ (text_ne ht3) w h
  have hS := setOrName_any pb t r c (hf.2 t (by simp)) w hK h
  cases hr : RP.setOrNameP setOf c (t :: r) with
  | error b =>
    have HR : Hid (RP.unitP setOf c (RP.patP setOf c m) (t :: r) = .error b) := by show _ = _; rw [RP.unitP, RP.hd, List.headD_cons, if_neg ht, if_neg ht2, if_neg ht3, hr]
    rw [hr] at hS
    clear h hK hf ht ht2 ht3 hr hP
    go_enter Tryz.func236, Tryz.ntmps236
    go_wp2_with fail
    refine hA.mono ?_
    rintro e w' ⟨rfl, hw⟩
    obtain rfl := hw.symm
    clear hA
    go_wp2_with fail
    refine hB.mono ?_
    rintro e w' ⟨rfl, hw⟩
    obtain rfl := hw.symm
    clear hB
    go_wp2_with fail
    refine hD.mono ?_
    rintro e w' ⟨rfl, hw⟩
    obtain rfl := hw.symm
    clear hD
    go_wp2_with fail
    refine hS.mono ?_
    rintro e w2 ⟨hg2, b', rfl, k1, k2, k3⟩
    go_wp2_with fail
    exact ⟨rfl, Step.map HR.out ⟨rfl, rfl, rfl, Nat.le_refl _, fun _ _ _ => rfl⟩ hg2 ⟨b', rfl, k1, k2, k3⟩⟩
  | ok x =>
    obtain ⟨k, q⟩ := x
    have HR : Hid (RP.unitP setOf c (RP.patP setOf c m) (t :: r) = .ok (.one k, q)) := by show _ = _; rw [RP.unitP, RP.hd, List.headD_cons, if_neg ht, if_neg ht2, if_neg ht3, hr]
    rw [hr] at hS
    clear h hK hf ht ht2 ht3 hr hP
    go_enter Tryz.func236, Tryz.ntmps236
    go_wp2_with fail
    refine hA.mono ?_
    rintro e w' ⟨rfl, hw⟩
    obtain rfl := hw.symm
    clear hA
    go_wp2_with fail
    refine hB.mono ?_
    rintro e w' ⟨rfl, hw⟩
    obtain rfl := hw.symm
    clear hB
    go_wp2_with fail
    refine hD.mono ?_
    rintro e w' ⟨rfl, hw⟩
    obtain rfl := hw.symm
    clear hD
    go_wp2_with fail
    refine hS.mono ?_
    rintro e w2 ⟨hg2, hp2, v, rfl, hv⟩
    have HP2 : Hid (PS pb q c w2) := hp2
    have HV : Hid (KAt (New w) w2 v k) := hv
    have hs2 := hg2.size
    obtain ⟨vb, rfl⟩ := hv.ptr
    clear hp2 hv hS
    go_wp2_with fail
    go_ret
    exact Step.ok HR.out (hg2.trans (World.grownBy_alloc _ _ _)) (HP2.out.grown (World.grownBy_alloc _ _ _)) ⟨⟨_, rfl⟩, w2.heap.size, _, rfl, hs2, heap_alloc_new _ _, HV.out.keep (Keeps.alloc _ _ _)⟩

end Go.Proofs.YtjbdlihlcoldlaaGreatDoor.Q

namespace Go.Proofs.YtjbdlihlcoldlaaGreatDoor.Q
open Go.RowKit Go.Shelf

theorem row_made {w W : World} (v : Value) (h : w.heap.size ≤ W.heap.size) : Row (New w) (W.alloc (.cells #[v] 35)) 35 1 (.slice (some ⟨W.heap.size, 0, none⟩) 1 1) 1 [v] :=
  ⟨⟨rfl, .inr ⟨W.heap.size, 1, #[v], rfl, Nat.zero_le _, heap_alloc_new _ _, Nat.le_refl _, by unfold maxLen; omega, rfl, rfl⟩⟩, fun j hj => by cases hj; exact h⟩

set_option maxHeartbeats 2000000 in
set_option maxRecDepth 100000 in
theorem part_any (d m : Nat) (hd : d + m = 8) (hU : PatC 236 d (fun c => RP.unitP setOf c (RP.patP setOf c m))) : PatC 218 d (fun c => RP.partP setOf c (RP.patP setOf c m) m) := by
  intro pb c ts w hf h5 hK h
  dsimp only
  have hl := h.lt
  have hC := hU pb c ts w hf h5 hK h
  dsimp only at hC
  cases hr : RP.unitP setOf c (RP.patP setOf c m) ts with
  | error b =>
    have HR : Hid (RP.partP setOf c (RP.patP setOf c m) m ts = .error b) := by show _ = _; rw [RP.partP, hr]
    rw [hr] at hC
    clear h hK hf hr hU
    go_enter Tryz.func218, Tryz.ntmps218
    go_wp2_with fail
    refine hC.mono ?_
    rintro e w2 ⟨hg2, b', rfl, k1, k2, k3⟩
    go_wp2_with fail
    exact ⟨rfl, Step.map HR.out ⟨rfl, rfl, rfl, Nat.le_refl _, fun _ _ _ => rfl⟩ hg2 ⟨b', rfl, k1, k2, k3⟩⟩
  | ok x =>
    obtain ⟨k, q⟩ := x
    have hqf := (RP.unitP_fine (RP.patP_fine m) _ _ _ hf hr).1
    have HR : Hid (RP.partP setOf c (RP.patP setOf c m) m ts = RP.tLoop c m k q) := by show _ = _; rw [RP.partP, hr]
    rw [hr] at hC
    have HK : Hid (KT w) := hK
    clear h hK hf hr hU
    go_enter Tryz.func218, Tryz.ntmps218
    go_wp2_with fail
    refine hC.mono ?_
    rintro e w2 ⟨hg2, hp2, v, rfl, ⟨vb, rfl⟩, hv⟩
    have HP2 : Hid (PS pb q c w2) := hp2
    have HV : Hid (PAt (New w) w2 [.pointer (some ⟨vb, 0, none⟩)] k) := hv
    clear hp2 hv hC
    go_wp2_with fail
    go_loopw [1, 5] (fun i v wr => ∃ (dd mm : Nat) (xx : RP.Pt) (s : List RP.Tok), dd + mm = 8 ∧ RP.Fine s ∧ i = .int .i64 dd ∧ IsPtr v ∧ PAt (New w) wr [v] xx ∧ PS pb s c wr ∧ w.grownBy wr (some pb) ∧ RP.partP setOf c (RP.patP setOf c m) m ts = RP.tLoop c mm xx s) (fun _ _ wr => cnt pb wr)
    case atStart => exact ⟨d, m, k, q, hd, hqf, rfl, ⟨_, rfl⟩, HV.out, HP2.out, hg2, HR.out⟩
    case round =>
      obtain ⟨dd, mm, xx, s, hdm, hfs, rfl, ⟨vb2, rfl⟩, hpv, hp, hg, hR⟩ := hrel
      obtain ⟨u, s, rfl⟩ := hfs.cons
      have hT := times_any pb u s c hfs wr hp
      have hcnt := hp.cnt
      have hlr := hp.lt
      have hsr := hg.size
      have HPV : Hid (PAt (New w) wr [.pointer (some ⟨vb2, 0, none⟩)] xx) := hpv
      cases ht : RP.timesP c (u :: s) with
      | error b =>
        have HR2 : Hid (RP.partP setOf c (RP.patP setOf c m) m ts = .error b) := by show _ = _; rw [hR]; cases mm <;> rw [RP.tLoop, ht]
        rw [ht] at hT
        clear hp hpv hR ht hcnt
        go_wp2_with fail
        refine hT.mono ?_
        rintro e w3 ⟨hg3, b', rfl, k1, k2, k3⟩
        go_wp2_with fail
        exact ⟨rfl, Step.map HR2.out hg hg3 ⟨b', rfl, k1, k2, k3⟩⟩
      | ok y =>
        obtain ⟨y, q2⟩ := y
        have hfq := RP.timesP_fine hfs ht
        rw [ht] at hT
        cases y with
        | none =>
          have HR2 : Hid (RP.partP setOf c (RP.patP setOf c m) m ts = .ok (xx, q2)) := by show _ = _; rw [hR]; cases mm <;> rw [RP.tLoop, ht]
          clear hp hpv hR ht hcnt
          go_wp2_with fail
          refine hT.mono ?_
          rintro e w3 ⟨hg3, hp3, v3, rfl, rfl⟩
          have HP3 : Hid (PS pb q2 c w3) := hp3
          unfold timesV
          clear hp3 hT
          go_wp2_with fail
          go_ret
          exact Step.ok HR2.out (hg.trans hg3) HP3.out ⟨⟨_, rfl⟩, HPV.out.keep (Keeps.new hl hg3)⟩
        | some y =>
          obtain ⟨lo, hi⟩ := y
          obtain ⟨u2, s2, rfl⟩ := hfq.1.cons
          have hql := hfq.2.2 (by simp)
          have hfq1 := hfq.1
          cases mm with
          | zero =>
            obtain rfl : dd = 8 := by omega
            have HR2 : Hid (RP.partP setOf c (RP.patP setOf c m) m ts = .error ⟨refuseE 4 u2 c, u2.at_⟩) := by show _ = _; rw [hR, RP.tLoop, ht]; rfl
            clear hp hpv hR ht hcnt hfq
            go_wp2_with fail
            refine hT.mono ?_
            rintro e w3 ⟨hg3, hp3, v3, rfl, rfl⟩
            have hF := refuse_any 4 pb u2 s2 c w3 hp3
            unfold timesV
            clear hp3 hT
            go_wp2_with fail
            refine hF.mono ?_
            rintro e w4 ⟨⟨b, rfl, k1, k2, k3⟩, hb4⟩
            go_wp2_with fail
            exact ⟨rfl, Step.map HR2.out (hg.trans hg3) (grown_below hb4 _) ⟨b, rfl, k1, k2, k3⟩⟩
          | succ mm =>
            have HR2 : Hid (RP.partP setOf c (RP.patP setOf c m) m ts = RP.tLoop c mm (.many xx lo hi) (u2 :: s2)) := by show _ = _; rw [hR, RP.tLoop, ht]
            have hdd : (dd : Int) ≤ 7 := by omega
            clear hp hpv hR ht hfq
            go_wp2_with fail
            refine hT.mono ?_
            rintro e w3 ⟨hg3, hp3, v3, rfl, rfl⟩
            have HP3 : Hid (PS pb (u2 :: s2) c w3) := hp3
            have hs3 := hg3.size
            unfold timesV
            clear hp3 hT
            go_wp2_with fail
            have hp4 : PS pb (u2 :: s2) c ((w3.alloc (.cells #[.pointer (some ⟨vb2, 0, none⟩)] 35)).alloc (.cells #[.int .i64 6, .pointer none, .slice (some ⟨w3.heap.size, 0, none⟩) 1 1, .int .i64 lo, .int .i64 hi] 39)) := (HP3.out.grown (World.grownBy_alloc _ _ _)).grown (World.grownBy_alloc _ _ _)
            have hv3 : PAt (New w) w3 [.pointer (some ⟨vb2, 0, none⟩)] xx := HPV.out.keep (Keeps.new hl hg3)
            refine ⟨⟨dd + 1, mm, .many xx lo hi, u2 :: s2, by omega, hfq1, by push_cast; rfl, ⟨_, rfl⟩, ?_, hp4, ((hg.trans hg3).trans (World.grownBy_alloc _ _ _)).trans (World.grownBy_alloc _ _ _), HR2.out⟩, ?_⟩
            · refine ⟨w3.heap.size + 1, _, _, rfl, (by unfold New; omega), ?_, (row_made _ (by omega)).keep (Keeps.alloc _ _ _), (hv3.keep (Keeps.alloc _ _ _)).keep (Keeps.alloc _ _ _)⟩
              have := heap_alloc_new (w3.alloc (.cells #[.pointer (some ⟨vb2, 0, none⟩)] 35)) (.cells #[.int .i64 6, .pointer none, .slice (some ⟨w3.heap.size, 0, none⟩) 1 1, .int .i64 lo, .int .i64 hi] 39)
              simpa using this
            · rw [hp4.cnt, hcnt]
              exact hql

end Go.Proofs.YtjbdlihlcoldlaaGreatDoor.Q

namespace Go.Proofs.YtjbdlihlcoldlaaGreatDoor.Q
open Go.RowKit Go.Shelf

theorem append_where {P : Program} (w : World) (base : Nat) (t ty e : TypeId) (i : TypeInfo) (z : Value) (bytes : Nat) (ht : P.underlying t = some (.slice e)) (hi : P.info? e = some i) (hz : i.zero = some z)
    (hsize : i.size = 1) (hby : i.bytes = bytes) (hzs : z.cells.size = 1)
    (v : Value) (n : Nat) (xs : List Value) (hown : w.ownsRow base e 1 v n xs)
    (a : Addr) (c : Nat) (u : Value) (hu : w.cell? a = some u) (h1 : u.oneCell' = true)
    (h63 : n + 1 ≤ maxLen) (hbytes : (n + 1) * bytes ≤ 140737488355328) (hbase : base ≤ w.heap.size) :
    ∃ v' w', (Builtin.append_ #[t, t] ty #[v, .slice (some a) 1 c]).run P w = .ok v' w' ∧ w'.ownsRow base e 1 v' (n + 1) (xs ++ [u]) ∧ w.grownBy w' v.ownBlock ∧ (v'.ownBlock = v.ownBlock ∨ v'.ownBlock = some w.heap.size) := by
  have hnews : ∀ j x, [u][j]? = some x → w.cell? (a.add j) = some x := by
    intro j x hj
    match j, hj with
    | 0, hj => cases hj; simpa [Addr.add] using hu
    | j + 1, hj => simp at hj
  have h1' : ∀ x ∈ [u], x.oneCell' = true := fun x hx => by simp at hx; rw [hx]; exact h1
  obtain ⟨v', w', hr, h2, h3, _⟩ := run_append_own (P := P) w base t ty e i z 1 bytes ht hi hz hsize hby hzs (by omega) v n xs hown a 1 c [u] rfl hnews h1' h63 hbytes hbase
  refine ⟨v', w', hr, h2, h3, ?_⟩
  have hl : [u].length = 1 * i.size := by rw [hsize]; rfl
  have h63' : n + 1 ≤ 9223372036854775807 := by simp only [maxLen] at h63; omega
  rcases hown.2 with ⟨rfl, rfl⟩ | ⟨g, cap, cur, rfl, hbg, hg, hnc, hcm, hcs, htake⟩
  · have hr2 := run_append_nil (P := P) w t ty e i z ht hi hz a 1 c [u] hl hnews (by omega) (by omega) (by rw [hby]; omega)
    rw [hr2] at hr
    cases hr
    exact .inr rfl
  · by_cases hroom : n + 1 ≤ cap
    · have hr2 := run_append_room (P := P) w t ty e i ht hi g n cap cur hg a 1 c [u] hl hnews h1' hroom (by rw [hsize, hcs]; simp; omega)
      rw [hr2] at hr
      cases hr
      exact .inl rfl
    · have hr2 := run_append_grow (P := P) w t ty e i z ht hi hz ⟨g, 0, none⟩ n cap xs (by rw [hsize]; exact hown.1) (hown.cells (g := g) rfl) a 1 c [u] hl hnews (by omega) (by omega) (growslice_fits (by omega) (by rw [hby]; exact hbytes))
      rw [hr2] at hr
      cases hr
      exact .inr rfl

theorem info46' : (Tryz.prog.info? 35).map (fun i => (i.zero, i.size, i.bytes)) = some (some (.pointer none), 1, 8) := by kernel_rfl

/-- Patterns in an own row, none in the row's own block. -/
def Held (w0 w : World) (v : Value) (vs : List Value) (ps : List RP.Pt) : Prop :=
  w.ownsRow w0.heap.size 35 1 v vs.length vs ∧ PsAt (fun b => New w0 b ∧ v.ownBlock ≠ some b) w vs ps ∧ ∀ u ∈ vs, IsPtr u

theorem Held.nil (w0 w : World) : Held w0 w (.slice none 0 0) [] [] := ⟨World.ownsRow_nil _ _ _ _, rfl, fun _ h => by simp at h⟩

theorem Held.row {w0 w : World} {v : Value} {vs : List Value} {ps : List RP.Pt} (h : Held w0 w v vs ps) : Row (New w0) w 35 1 v vs.length vs ∧ PsAt (New w0) w vs ps :=
  ⟨Row.new h.1, h.2.1.mono fun _ _ hb => hb.1⟩

theorem Held.grown {w0 w w' : World} {v : Value} {vs : List Value} {ps : List RP.Pt} {pb : Nat} (h : Held w0 w v vs ps) (hl : pb < w0.heap.size) (hg : w.grownBy w' (some pb)) : Held w0 w' v vs ps := by
  refine ⟨?_, h.2.1.keep (Keeps.grown hg fun b hb e => by cases e; have := hb.1; unfold New at this; omega), h.2.2⟩
  obtain ⟨h1, h2 | ⟨g, cap, cur, rfl, hgl, hh, rest⟩⟩ := h.1
  · exact ⟨h1, Or.inl h2⟩
  · exact ⟨h1, Or.inr ⟨g, cap, cur, rfl, hgl, (hg.block g (lt_of_block hh) (fun e => by cases e; omega)).trans hh, rest⟩⟩

/-- One more: made in new blocks, laid into a slice of one, appended. -/
theorem Held.more {w0 wr w : World} {v : Value} {vs : List Value} {ps : List RP.Pt} {b : Nat} {p : RP.Pt} (ty : TypeId) (h : Held w0 w v vs ps) (h0 : w0.heap.size ≤ wr.heap.size) (hrw : wr.heap.size ≤ w.heap.size)
    (hvb : ∀ j, v.ownBlock = some j → j < wr.heap.size)
    (hp : PAt (New wr) w [.pointer (some ⟨b, 0, none⟩)] p) (hn : vs.length ≤ 1000000) :
    ∃ v' w', (Builtin.append_ #[37, 37] ty #[v, .slice (some ⟨w.heap.size, 0, none⟩) 1 1]).run Tryz.prog (w.alloc (.cells #[.pointer (some ⟨b, 0, none⟩)] 35)) = .ok v' w' ∧
      Held w0 w' v' (vs ++ [.pointer (some ⟨b, 0, none⟩)]) (ps ++ [p]) ∧ (w.alloc (.cells #[.pointer (some ⟨b, 0, none⟩)] 35)).grownBy w' v.ownBlock := by
  obtain ⟨i0, hi, hz0, hz1, hz2⟩ := info_parts info46'
  have hown : (w.alloc (.cells #[.pointer (some ⟨b, 0, none⟩)] 35)).ownsRow w0.heap.size 35 1 v vs.length vs := h.1.alloc _
  obtain ⟨v', w', hr, h2, h3, h4⟩ := append_where (P := Tryz.prog) (w.alloc (.cells #[.pointer (some ⟨b, 0, none⟩)] 35)) w0.heap.size 37 ty 35 i0 (.pointer none) 8 Tryz.underlying37 hi hz0 hz1 hz2 rfl v vs.length vs hown ⟨w.heap.size, 0, none⟩ 1 (.pointer (some ⟨b, 0, none⟩)) (by simp) rfl (by unfold maxLen; omega) (by omega) (by simp; omega)
  refine ⟨v', w', hr, ⟨by simpa using h2, ?_, ?_⟩, h3⟩
  · have hnot : ∀ j, j < (w.alloc (.cells #[.pointer (some ⟨b, 0, none⟩)] 35)).heap.size → v.ownBlock ≠ some j → v'.ownBlock ≠ some j := by
      intro j hj hne e
      rcases h4 with h4 | h4
      · exact hne (h4.symm.trans e)
      · rw [h4] at e
        cases e
        omega
    have e1 : PsAt (fun b => (New w0 b ∧ v.ownBlock ≠ some b) ∧ v'.ownBlock ≠ some b) (w.alloc (.cells #[.pointer (some ⟨b, 0, none⟩)] 35)) vs ps :=
      PAt.mono (fun j hj hb => ⟨hb, hnot j hj hb.2⟩) (PAt.keep (Keeps.alloc _ _ _) h.2.1)
    have e2 : PAt (fun b => (New w0 b ∧ v.ownBlock ≠ some b) ∧ v'.ownBlock ≠ some b) (w.alloc (.cells #[.pointer (some ⟨b, 0, none⟩)] 35)) [.pointer (some ⟨b, 0, none⟩)] p :=
      PAt.mono (fun j hj hb => by
        have hv : v.ownBlock ≠ some j := fun e => by have := hvb j e; unfold New at hb; omega
        exact ⟨⟨Nat.le_trans h0 hb, hv⟩, hnot j hj hv⟩) (PAt.keep (Keeps.alloc _ _ _) hp)
    exact PAt.mono (fun j _ hb => ⟨hb.1.1, hb.2⟩) (PAt.keep (Keeps.grown h3 fun b hb e => hb.1.2 e.symm) (PsAt.snoc e1 e2))
  · intro u hu
    simp at hu
    rcases hu with hu | rfl
    · exact h.2.2 u hu
    · exact ⟨_, rfl⟩

end Go.Proofs.YtjbdlihlcoldlaaGreatDoor.Q
