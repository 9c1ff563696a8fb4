/- The contracts of atUnit, of set.Parse as a function of the text, and of setOrName; kinds in memory. -/
import Derived.Test.YtjbmdnkpfkelmaaGreatDoorParE
import Derived.Test.YtjbmdnkpfkelmaaGreatDoorPlain
import Derived.Test.YtjbmdnkpfkelmaaGreatDoorSRead
namespace Go.Proofs.YtjbmdnkpfkelmaaGreatDoor.Q
open Go.RowKit Go.Shelf

theorem ct_any (s : ByteArray) (c : UInt8) (w : World) : Calls Tryz.prog 6 #[.string s, .string ⟨#[c]⟩] w fun e w' => e = .returned (.bool (decide (0 ≤ Lib.indexByte s.data.toList c))) ∧ w' = w := Any.strings_Contains_one Tryz.ctL s c w

set_option maxHeartbeats 1000000 in
set_option maxRecDepth 100000 in
theorem atUnit_any (pb : Nat) (t : RP.Tok) (r : List RP.Tok) (c : Nat) (ht : RP.TokOk t) (w : World) (h : PS pb (t :: r) c w) :
    Calls Tryz.prog 57 #[.pointer (some ⟨pb, 0, none⟩)] w fun e w' => e = .returned (.bool (RP.atUnit t)) ∧ w' = w := by
  have hI3 := is_any 3 pb t r c w h
  have hI1 := is_any 1 pb t r c w h
  have hI4 := is_any 4 pb t r c w h
  by_cases h3 : t.kind = 3
  · have HR : Hid (RP.atUnit t = true) := by show _ = _; simp [RP.atUnit, h3]
    have e3 : decide (t.kind = 3) = true := by simpa using h3
    rw [e3] at hI3
    clear h h3 e3 hI1 hI4
    go_enter Tryz.func57, Tryz.ntmps57
    go_wp2_with fail
    refine hI3.mono ?_
    rintro e w' ⟨rfl, hw⟩
    obtain rfl := hw.symm
    go_wp2_with fail
    go_ret
    exact ⟨ret_bool HR.out.symm, rfl⟩
  · have e3 : decide (t.kind = 3) = false := by simpa using h3
    rw [e3] at hI3
    by_cases h1 : t.kind = 1
    · have HR : Hid (RP.atUnit t = true) := by show _ = _; simp [RP.atUnit, h1]
      have e1 : decide (t.kind = 1) = true := by simpa using h1
      rw [e1] at hI1
      clear h h3 e3 h1 e1 hI4
      go_enter Tryz.func57, Tryz.ntmps57
      go_wp2_with fail
      refine hI3.mono ?_
      rintro e w' ⟨rfl, hw⟩
      obtain rfl := hw.symm
      go_wp2_with fail
      refine hI1.mono ?_
      rintro e w' ⟨rfl, hw⟩
      obtain rfl := hw.symm
      go_wp2_with fail
      go_ret
      exact ⟨ret_bool HR.out.symm, rfl⟩
    · have e1 : decide (t.kind = 1) = false := by simpa using h1
      rw [e1] at hI1
      by_cases h4 : t.kind = 4
      · obtain ⟨b, hb⟩ : ∃ b, t.text = [b] := List.length_eq_one_iff.1 (ht.2.2.1 h4)
        have HR : Hid (RP.atUnit t = decide (0 ≤ Lib.indexByte [46, 36, 40] b)) := by
          show _ = _
          rw [← Lib.contains_iff_indexByte]
          simp [RP.atUnit, h4, hb]
        have e4 : decide (t.kind = 4) = true := by simpa using h4
        rw [e4] at hI4
        have hC := ct_any ⟨#[46, 36, 40]⟩ b w
        obtain ⟨tb, off, cap, c0, c1, f0, f1, hc, hcm, t0, t1, t2, -, -, -⟩ := h.open
        rw [hb] at t2
        clear h h3 e3 h1 e1 h4 e4 hb ht
        go_enter Tryz.func57, Tryz.ntmps57
        go_wp2_with fail
        refine hI3.mono ?_
        rintro e w' ⟨rfl, hw⟩
        obtain rfl := hw.symm
        go_wp2_with fail
        refine hI1.mono ?_
        rintro e w' ⟨rfl, hw⟩
        obtain rfl := hw.symm
        go_wp2_with fail
        refine hI4.mono ?_
        rintro e w' ⟨rfl, hw⟩
        obtain rfl := hw.symm
        go_wp2_with fail
        refine hC.mono ?_
        rintro e w' ⟨rfl, hw⟩
        obtain rfl := hw.symm
        go_wp2_with fail
        go_ret
        exact ⟨ret_bool HR.out.symm, rfl⟩
      · have HR : Hid (RP.atUnit t = false) := by show _ = _; simp [RP.atUnit, h3, h1, h4]
        have e4 : decide (t.kind = 4) = false := by simpa using h4
        rw [e4] at hI4
        clear h h3 e3 h1 e1 h4 e4
        go_enter Tryz.func57, Tryz.ntmps57
        go_wp2_with fail
        refine hI3.mono ?_
        rintro e w' ⟨rfl, hw⟩
        obtain rfl := hw.symm
        go_wp2_with fail
        refine hI1.mono ?_
        rintro e w' ⟨rfl, hw⟩
        obtain rfl := hw.symm
        go_wp2_with fail
        refine hI4.mono ?_
        rintro e w' ⟨rfl, hw⟩
        obtain rfl := hw.symm
        go_wp2_with fail
        go_ret
        exact ⟨ret_bool HR.out.symm, rfl⟩

open Classical in
/-- The set that a text is, if it is one. -/
noncomputable def setOf (t : List UInt8) : Option (List RS.Rg) :=
  if h : ∃ X, RS.right X = true ∧ bytesOf (RS.setText X) = ⟨t.toArray⟩ then some h.choose else none

theorem midText_ge (s : List RS.Rg) : ∀ k, s.length ≤ (RS.midText k s).length := by
  induction s with
  | nil => intro k; simp
  | cons r s ih =>
    intro k
    have h1 := ih (k + 1)
    have h2 : 1 ≤ (RS.rgText r).length := List.length_pos_iff.2 (rgText_ne r)
    rw [RS.midText, List.length_append, List.length_append, List.length_cons]
    omega

/-- The tables that set.Parse looks at. -/
def KT (w : World) : Prop := TZ w ∧ EV w ∧ ML w ∧ 5 < w.heap.size
theorem KT.below {w w' : World} (h : KT w) (hb : Below w.heap.size w w') : KT w' :=
  ⟨h.1.below hb h.2.2.2, h.2.1.below hb h.2.2.2, h.2.2.1.below hb h.2.2.2, Nat.lt_of_lt_of_le h.2.2.2 hb.size⟩

theorem setParse_some (t : List UInt8) (X : List RS.Rg) (ht : t.length ≤ 5000) (hX : setOf t = some X) (w : World) (hK : KT w) :
    Calls Tryz.prog 61 #[.string ⟨t.toArray⟩] w fun e w' => (∃ v, e = .returned (.tuple #[v, .nilIface]) ∧ w'.ownsRow w.heap.size 85 2 v X.length (flat2 X)) ∧ Below w.heap.size w w' := by
  unfold setOf at hX
  split at hX
  · rename_i h
    cases hX
    obtain ⟨h1, h2⟩ := h.choose_spec
    generalize h.choose = Y at h1 h2
    have hl : Y.length ≤ 5000 := by
      have e1 : (RS.setText Y).length = t.length := by
        have := congrArg ByteArray.size h2
        rw [bytesOf_size] at this
        rw [this]
        show t.toArray.size = _
        simp
      have e2 := midText_ge Y 0
      have e3 : (RS.setText Y).length = (RS.midText 0 Y).length + 2 := by simp [RS.setText]
      omega
    have := parse_text Y hl h1 w hK.2.1 hK.2.2.1 hK.1 hK.2.2.2
    rw [h2] at this
    exact this
  · cases hX

theorem setParse_none (t : List UInt8) (ht : t.length ≤ 5000) (hX : setOf t = none) (w : World) (hK : KT w) :
    Calls Tryz.prog 61 #[.string ⟨t.toArray⟩] w fun e w' => e = .returned (.tuple #[.slice none 0 0, .iface 56 (.int .i64 3)]) ∧ Below w.heap.size w w' := by
  unfold setOf at hX
  split at hX
  · cases hX
  · rename_i h
    refine (parse_all ⟨t.toArray⟩ (by show t.toArray.size ≤ 5000; simpa using ht) w hK.2.1 hK.2.2.1 hK.1 hK.2.2.2).mono ?_
    rintro e w' ⟨hp | ⟨v, out, _, _, h3, h4, _⟩, hb⟩
    · exact ⟨hp, hb⟩
    · exact absurd ⟨out, h3, h4⟩ h

end Go.Proofs.YtjbmdnkpfkelmaaGreatDoor.Q
