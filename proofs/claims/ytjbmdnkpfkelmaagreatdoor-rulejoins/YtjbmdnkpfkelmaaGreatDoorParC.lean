/- The contracts of the parser's name, breaks, and of codeOf. -/
import Derived.Test.YtjbmdnkpfkelmaaGreatDoorParB
import Derived.Test.YtjbmdnkpfkelmaaGreatDoorPlain
namespace Go.Proofs.YtjbmdnkpfkelmaaGreatDoor.Q
open Go.RowKit Go.Shelf

/-- What a method of the parser leaves: its answer and the tokens behind; or what it throws. -/
def Step (pb c : Nat) (w : World) {α : Type} (res : RP.Res α) (V : α → Value → World → Prop) (e : Ending) (w' : World) : Prop :=
  w.grownBy w' (some pb) ∧ match res with
    | .error b => Throws w b.err b.place e w'
    | .ok (a, r) => PS pb r c w' ∧ ∃ v, e = .returned v ∧ V a v w'

theorem grown_below {w w' : World} (hb : Below w.heap.size w w') (row : Option Nat) : w.grownBy w' row := ⟨hb.os, hb.tape, hb.output, hb.size, fun k hk _ => hb.block k hk⟩

theorem fld53_1 (a b c : Value) (w : World) : (Instr.field 53 (.agg #[a, b, c]) 1).run Tryz.prog w = .ok b w := by kernel_rfl
theorem fld53_2 (a b c : Value) (w : World) : (Instr.field 53 (.agg #[a, b, c]) 2).run Tryz.prog w = .ok c w := by kernel_rfl

theorem refuse_eq (c en : Nat) (t : RP.Tok) : RP.refuse c en t = ⟨refuseE en t c, t.at_⟩ := rfl

theorem PS.grown {pb : Nat} {ts : List RP.Tok} {c : Nat} {w w' : World} (h : PS pb ts c w) (hg : w.grownBy w' none) : PS pb ts c w' :=
  h.below ⟨hg.os, hg.tape, hg.output, hg.size, fun k hk => hg.block k hk (by simp)⟩

set_option maxHeartbeats 1000000 in
set_option maxRecDepth 100000 in
theorem name_any (pb : Nat) (t : RP.Tok) (r : List RP.Tok) (c : Nat) (ht : t.text.length ≤ 100000) (w : World) (h : PS pb (t :: r) c w) :
    Calls Tryz.prog 37 #[.pointer (some ⟨pb, 0, none⟩)] w (Step pb c w (RP.nameP c (t :: r)) fun x v _ => v = .string ⟨x.toArray⟩) := by
  have hI := is_any 1 pb t r c w h
  by_cases h1 : t.kind = 1
  · have e1 : decide (t.kind = 1) = true := by simpa using h1
    rw [e1] at hI
    obtain ⟨tb, off, cap, c0, c1, f0, f1, hc, hcm, t0, t1, t2, -, -, -⟩ := h.open
    obtain ⟨y, hy⟩ : ∃ y : ByteArray, y = ⟨t.text.toArray⟩ := ⟨_, rfl⟩
    have hys : y.size = t.text.length := by rw [hy]; show t.text.toArray.size = _; simp
    by_cases h10 : 10 < t.text.length
    · have HR : Hid (RP.nameP c (t :: r) = .error ⟨refuseE 4 t c, t.at_⟩) := by show _ = _; rw [RP.nameP, if_pos h1, if_pos h10, refuse_eq]
      have hF := refuse_any 4 pb t r c w h
      rw [← hy] at t2
      have h10' : (10 : Int) < (y.size : Int) := by omega
      have hym : y.size ≤ 100000 := by omega
      clear h h1 e1 hy hys h10 ht
      go_enter Tryz.func37, Tryz.ntmps37
      go_wp2_with fail
      refine hI.mono ?_
      rintro e w' ⟨rfl, hw⟩
      obtain rfl := hw.symm
      go_wp2_with fail
      refine hF.mono ?_
      rintro e w2 ⟨⟨b, rfl, k1, k2, k3⟩, hb⟩
      go_wp2_with fail
      refine ⟨rfl, grown_below hb _, ?_⟩
      rw [HR.out]
      exact ⟨b, rfl, k1, k2, k3⟩
    · have HR : Hid (RP.nameP c (t :: r) = .ok (t.text, r)) := by show _ = _; rw [RP.nameP, if_pos h1, if_neg h10]
      have hF := take_yes pb t r c 1 h1 w h
      unfold tokV at hF
      rw [← hy] at t2 hF
      have h10' : (y.size : Int) ≤ 10 := by omega
      have HY : Hid (y = ⟨t.text.toArray⟩) := hy
      have hfl := fld53_2
      clear h h1 e1 hy hys h10 ht
      go_enter Tryz.func37, Tryz.ntmps37
      go_wp2_with fail
      refine hI.mono ?_
      rintro e w' ⟨rfl, hw⟩
      obtain rfl := hw.symm
      go_wp2_with fail
      refine hF.mono ?_
      rintro e w2 ⟨rfl, hP, hg⟩
      have HP : Hid (PS pb r c w2) := hP
      clear hP hF hI
      go_wp2_with fail
      go_ret
      refine ⟨hg, ?_⟩
      rw [HR.out]
      exact ⟨HP.out, _, rfl, congrArg Value.string HY.out⟩
  · have e1 : decide (t.kind = 1) = false := by simpa using h1
    rw [e1] at hI
    have HR : Hid (RP.nameP c (t :: r) = .error ⟨refuseE 3 t c, t.at_⟩) := by show _ = _; rw [RP.nameP, if_neg h1, refuse_eq]
    have hF := take_no pb t r c 1 h1 w h
    clear h h1 e1 ht
    go_enter Tryz.func37, Tryz.ntmps37
    go_wp2_with fail
    refine hI.mono ?_
    rintro e w' ⟨rfl, hw⟩
    obtain rfl := hw.symm
    go_wp2_with fail
    refine hF.mono ?_
    rintro e w2 ⟨⟨b, rfl, k1, k2, k3⟩, hb⟩
    go_wp2_with fail
    refine ⟨rfl, grown_below hb _, ?_⟩
    rw [HR.out]
    exact ⟨b, rfl, k1, k2, k3⟩

set_option maxHeartbeats 1000000 in
set_option maxRecDepth 100000 in
theorem breaks_any (pb : Nat) (t : RP.Tok) (r : List RP.Tok) (c : Nat) (w : World) (h : PS pb (t :: r) c w) :
    Calls Tryz.prog 22 #[.pointer (some ⟨pb, 0, none⟩)] w (Step pb c w (RP.breaksP c (t :: r)) fun x v _ => v = .bool x) := by
  have hI := is_any 6 pb t r c w h
  by_cases h6 : t.kind = 6
  · have e1 : decide (t.kind = 6) = true := by simpa using h6
    rw [e1] at hI
    have HR : Hid (RP.breaksP c (t :: r) = .ok (true, r)) := by show _ = _; rw [RP.breaksP, if_pos h6]
    have hF := take_yes pb t r c 6 h6 w h
    unfold tokV at hF
    clear h h6 e1
    go_enter Tryz.func22, Tryz.ntmps22
    go_wp2_with fail
    refine hI.mono ?_
    rintro e w' ⟨rfl, hw⟩
    obtain rfl := hw.symm
    go_wp2_with fail
    refine hF.mono ?_
    rintro e w2 ⟨rfl, hP, hg⟩
    have HP : Hid (PS pb r c w2) := hP
    clear hP hF hI
    go_wp2_with fail
    go_ret
    refine ⟨hg, ?_⟩
    rw [HR.out]
    exact ⟨HP.out, _, rfl, rfl⟩
  · have e1 : decide (t.kind = 6) = false := by simpa using h6
    rw [e1] at hI
    by_cases h7 : t.kind = 7
    · have HR : Hid (RP.breaksP c (t :: r) = .ok (false, r)) := by show _ = _; rw [RP.breaksP, if_neg h6, if_pos h7]
      have hF := take_yes pb t r c 7 h7 w h
      unfold tokV at hF
      clear h h6 e1 h7
      go_enter Tryz.func22, Tryz.ntmps22
      go_wp2_with fail
      refine hI.mono ?_
      rintro e w' ⟨rfl, hw⟩
      obtain rfl := hw.symm
      go_wp2_with fail
      refine hF.mono ?_
      rintro e w2 ⟨rfl, hP, hg⟩
      have HP : Hid (PS pb r c w2) := hP
      clear hP hF hI
      go_wp2_with fail
      go_ret
      refine ⟨hg, ?_⟩
      rw [HR.out]
      exact ⟨HP.out, _, rfl, rfl⟩
    · have HR : Hid (RP.breaksP c (t :: r) = .error ⟨refuseE 3 t c, t.at_⟩) := by show _ = _; rw [RP.breaksP, if_neg h6, if_neg h7, refuse_eq]
      have hF := take_no pb t r c 7 h7 w h
      clear h h6 e1 h7
      go_enter Tryz.func22, Tryz.ntmps22
      go_wp2_with fail
      refine hI.mono ?_
      rintro e w' ⟨rfl, hw⟩
      obtain rfl := hw.symm
      go_wp2_with fail
      refine hF.mono ?_
      rintro e w2 ⟨⟨b, rfl, k1, k2, k3⟩, hb⟩
      go_wp2_with fail
      refine ⟨rfl, grown_below hb _, ?_⟩
      rw [HR.out]
      exact ⟨b, rfl, k1, k2, k3⟩

theorem ba_eq {x y : List UInt8} : (⟨x.toArray⟩ : ByteArray) = ⟨y.toArray⟩ ↔ x = y := by
  constructor
  · intro h
    have := congrArg (fun b : ByteArray => b.data.toList) h
    simpa using this
  · rintro rfl; rfl

set_option maxHeartbeats 1000000 in
set_option maxRecDepth 100000 in
theorem codeOf_any (x : List UInt8) (w : World) : Calls Tryz.prog 48 #[.string ⟨x.toArray⟩] w fun e w' => e = .returned (.int .i64 (RP.codeOf x : Nat)) ∧ w' = w := by
  have hn : ∀ y : List UInt8, x ≠ y → ((⟨x.toArray⟩ : ByteArray).toList == y) = false := fun y h => by rw [Lib.toList_data]; simpa using h
  by_cases h1 : x = [124]
  · subst h1
    go_enter Tryz.func48, Tryz.ntmps48
    go_wp2_with fail
    go_ret
    exact ⟨ret_int (by decide), rfl⟩
  · have q1 := hn [124] h1
    by_cases h2 : x = [38]
    · subst h2
      go_enter Tryz.func48, Tryz.ntmps48
      go_wp2_with fail
      go_ret
      exact ⟨ret_int (by decide), rfl⟩
    · have q2 := hn [38] h2
      by_cases h3 : x = [45]
      · subst h3
        go_enter Tryz.func48, Tryz.ntmps48
        go_wp2_with fail
        go_ret
        exact ⟨ret_int (by decide), rfl⟩
      · have q3 := hn [45] h3
        have HC : Hid (RP.codeOf x = 0) := by show _ = _; unfold RP.codeOf; rw [if_neg h1, if_neg h2, if_neg h3]
        clear hn h1 h2 h3
        generalize (⟨x.toArray⟩ : ByteArray) = y at q1 q2 q3 ⊢
        go_enter Tryz.func48, Tryz.ntmps48
        go_wp2_with fail
        go_ret
        exact ⟨ret_int (by rw [HC.out]; rfl), rfl⟩

end Go.Proofs.YtjbmdnkpfkelmaaGreatDoor.Q
