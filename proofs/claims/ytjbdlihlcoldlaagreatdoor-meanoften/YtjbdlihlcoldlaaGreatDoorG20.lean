/- The contract of the parser's number. -/
import Derived.Test.YtjbdlihlcoldlaaGreatDoorG15
import Derived.Test.YtjbdlihlcoldlaaGreatDoorG19
namespace Go.Proofs.YtjbdlihlcoldlaaGreatDoor.Q
open Go.RowKit Go.Shelf

theorem numVal_snoc (l : List UInt8) (b : UInt8) : RP.numVal (l ++ [b]) = RP.numStep (RP.numVal l) b := by
  unfold RP.numVal
  rw [List.foldl_append]
  rfl

theorem numVal_le (l : List UInt8) : RP.numVal l ≤ 13 := by
  rcases List.eq_nil_or_concat l with rfl | ⟨p, b, rfl⟩
  · simp [RP.numVal]
  · rw [List.concat_eq_append, numVal_snoc]
    unfold RP.numStep
    omega

set_option maxHeartbeats 2000000 in
set_option maxRecDepth 100000 in
theorem number_any (pb : Nat) (t : RP.Tok) (r : List RP.Tok) (c : Nat) (ht : RP.TokOk t) (w : World) (h : PS pb (t :: r) c w) :
    Calls Tryz.prog 260 #[.pointer (some ⟨pb, 0, none⟩)] w (Step pb c w (RP.numberP c (t :: r)) fun x v _ => v = .int .i64 x) := by
  have hI := is_any 2 pb t r c w h
  by_cases h2 : t.kind = 2
  · have e1 : decide (t.kind = 2) = true := by simpa using h2
    rw [e1] at hI
    obtain ⟨tb, off, cap, c0, c1, f0, f1, hc, hcm, t0, t1, t2, -, -, -⟩ := h.open
    obtain ⟨y, hy⟩ : ∃ y : ByteArray, y = ⟨t.text.toArray⟩ := ⟨_, rfl⟩
    have hyl : y.data.toList = t.text := by rw [hy]
    have hys : y.size = t.text.length := by rw [hy]; show t.text.toArray.size = _; simp
    have hym : y.size ≤ 100000 := by rw [hys]; have := ht.1; omega
    rw [← hy] at t2
    have hcv := Lib.run_convert_string_bytes (P := Tryz.prog) w 9 219 5 y (u := .string) Tryz.underlying9 Tryz.underlying219 Tryz.underlying5
    have hB : Hid (∀ j (hj : j < t.text.length), (Lib.bytesWorld w 5 y).cell? ⟨w.heap.size, j, none⟩ = some (.int .u8 (t.text[j].toNat : Int)) ∧ 48 ≤ t.text[j].toNat ∧ t.text[j].toNat ≤ 57) := fun j hj => by
      have h1 := Lib.bytesWorld_cell w 5 y j (by omega)
      rw [hyl] at h1
      have h3 : t.text.getD j 0 = t.text[j] := by simp [hj]
      rw [h3] at h1
      have h4 := ht.2.1 h2 t.text[j] (List.getElem_mem hj)
      unfold RP.digit at h4
      simp at h4
      exact ⟨h1, h4.1, h4.2⟩
    have hbw : Below w.heap.size w (Lib.bytesWorld w 5 y) := below_bytes w y
    have hP1 : PS pb (t :: r) c (Lib.bytesWorld w 5 y) := h.below hbw
    have HF := refuse_any 4 pb t r c _ hP1
    have HT := take_yes pb t r c 2 h2 _ hP1
    unfold tokV at HT
    have HRF : Hid _ := HF
    have HTY : Hid _ := HT
    have HR : Hid (RP.numberP c (t :: r) = if 12 < RP.numVal t.text then .error ⟨refuseE 4 t c, t.at_⟩ else .ok (RP.numVal t.text, r)) := by show _ = _; rw [RP.numberP, if_pos h2, refuse_eq]
    generalize Lib.bytesWorld w 5 y = W1 at hcv hB hbw HRF HTY
    clear HF HT h hP1 h2 e1 hy hyl ht
    go_enter Tryz.func260, Tryz.ntmps260
    go_wp2_with fail
    refine hI.mono ?_
    rintro e w' ⟨rfl, hw⟩
    obtain rfl := hw.symm
    go_wp2_with fail
    go_loop [3, 17] (fun n i => ∃ k : Nat, k ≤ t.text.length ∧ i = .int .i64 k ∧ n = .int .i64 (RP.numVal (t.text.take k) : Nat)) (fun _ i => t.text.length - (intOf i).toNat)
    case atStart => exact ⟨0, Nat.zero_le _, rfl, rfl⟩
    case round =>
      obtain ⟨k, hk, rfl, rfl⟩ := hrel
      have hnl := numVal_le (t.text.take k)
      by_cases hlt : k < t.text.length
      · obtain ⟨b0, b1, b2⟩ := hB.out k hlt
        have HST : Hid (RP.numVal (t.text.take (k + 1)) = RP.numStep (RP.numVal (t.text.take k)) t.text[k]) := by show _ = _; rw [List.take_succ_eq_append_getElem hlt, numVal_snoc]
        generalize t.text[k] = bb at b0 b1 b2 HST
        generalize RP.numVal (t.text.take k) = n at hnl HST
        have HSN : Hid (RP.numVal (t.text.take (k + 1)) = min (10 * n + (bb.toNat - 48)) 13) := HST
        clear HST
        generalize bb.toNat = z at b0 b1 b2 HSN
        have hky : (k : Int) < (y.size : Int) := by omega
        go_wp2_with fail
        exact ⟨⟨k + 1, by omega, by go_num, by rw [HSN.out]; congr 1; omega⟩, by simp [intOf]; omega⟩
      · obtain rfl : k = t.text.length := by omega
        rw [List.take_length] at hnl ⊢
        by_cases h12 : 12 < RP.numVal t.text
        · have HR2 : Hid (RP.numberP c (t :: r) = .error ⟨refuseE 4 t c, t.at_⟩) := by show _ = _; rw [HR.out, if_pos h12]
          have hF := HRF.out
          go_wp2_with fail
          refine Calls.mono hF ?_
          rintro e w2 ⟨⟨b, rfl, k1, k2, k3⟩, hb⟩
          go_wp2_with fail
          refine ⟨rfl, grown_below (hbw.trans (hb.mono hbw.size)) _, ?_⟩
          rw [HR2.out]
          exact ⟨b, rfl, k1, Nat.le_trans hbw.size k2, k3⟩
        · have HR2 : Hid (RP.numberP c (t :: r) = .ok (RP.numVal t.text, r)) := by show _ = _; rw [HR.out, if_neg h12]
          have hF := HTY.out
          go_wp2_with fail
          refine Calls.mono hF ?_
          rintro e w2 ⟨rfl, hP, hg⟩
          have HP : Hid (PS pb r c w2) := hP
          clear hP hF hI
          go_wp2_with fail
          go_ret
          refine ⟨(grown_below hbw _).trans hg, ?_⟩
          rw [HR2.out]
          exact ⟨HP.out, _, rfl, rfl⟩
  · have e1 : decide (t.kind = 2) = false := by simpa using h2
    rw [e1] at hI
    have HR : Hid (RP.numberP c (t :: r) = .error ⟨refuseE 3 t c, t.at_⟩) := by show _ = _; rw [RP.numberP, if_neg h2, refuse_eq]
    have hF := take_no pb t r c 2 h2 w h
    clear h h2 e1 ht
    go_enter Tryz.func260, Tryz.ntmps260
    go_wp2_with fail
    refine hI.mono ?_
    rintro e w' ⟨rfl, hw⟩
    obtain rfl := hw.symm
    go_wp2_with fail
    refine hF.mono ?_
    rintro e w2 ⟨⟨b, rfl, k1, k2, k3⟩, hb⟩
    go_wp2_with fail
    refine ⟨rfl, grown_below hb _, ?_⟩
    rw [HR.out]
    exact ⟨b, rfl, k1, k2, k3⟩

end Go.Proofs.YtjbdlihlcoldlaaGreatDoor.Q

namespace Go.Proofs.YtjbdlihlcoldlaaGreatDoor.Q
open Go.RowKit Go.Shelf

theorem numberP_ok {c : Nat} {ts : List RP.Tok} {n : Nat} {r : List RP.Tok} (h : RP.numberP c ts = .ok (n, r)) (hf : RP.Fine ts) : RP.Fine r ∧ n ≤ 12 := by
  obtain ⟨t, q, rfl⟩ := hf.cons
  rw [RP.numberP] at h
  split at h
  · split at h
    · cases h
    · cases h
      exact ⟨hf.next (.inl (by omega)), by omega⟩
  · cases h

theorem Step.map {pb c : Nat} {w W : World} {α : Type} {b : RP.Bad} {e : Ending} {w' : World} {V : α → Value → World → Prop} {res : RP.Res α} (hr : res = .error b) (hg : w.grownBy W (some pb)) (hg2 : W.grownBy w' (some pb)) (h : Throws W b.err b.place e w') : Step pb c w res V e w' := by
  refine ⟨hg.trans hg2, ?_⟩
  rw [hr]
  exact h.later hg.size

theorem Step.ok {pb c : Nat} {w : World} {α : Type} {a : α} {r : List RP.Tok} {v : Value} {w' : World} {V : α → Value → World → Prop} {res : RP.Res α} (hr : res = .ok (a, r)) (hg : w.grownBy w' (some pb)) (hP : PS pb r c w') (hV : V a v w') : Step pb c w res V (.returned v) w' := by
  refine ⟨hg, ?_⟩
  rw [hr]
  exact ⟨hP, v, rfl, hV⟩

set_option maxHeartbeats 2000000 in
set_option maxRecDepth 100000 in
theorem bounds_any (pb : Nat) (t : RP.Tok) (r : List RP.Tok) (c : Nat) (hf : RP.Fine (t :: r)) (w : World) (h : PS pb (t :: r) c w) :
    Calls Tryz.prog 251 #[.pointer (some ⟨pb, 0, none⟩)] w (Step pb c w (RP.boundsP c (t :: r)) fun x v _ => v = .tuple #[.int .i64 x.1, .int .i64 x.2]) := by
  have hN := number_any pb t r c (hf.2 t (by simp)) w h
  cases hn : RP.numberP c (t :: r) with
  | error b =>
    rw [hn] at hN
    have HR : Hid (RP.boundsP c (t :: r) = .error b) := by show _ = _; unfold RP.boundsP; rw [hn]
    clear hn h hf
    go_enter Tryz.func251, Tryz.ntmps251
    go_wp2_with fail
    refine hN.mono ?_
    rintro e w1 ⟨hg, b', rfl, k1, k2, k3⟩
    go_wp2_with fail
    exact ⟨rfl, Step.map HR.out ⟨rfl, rfl, rfl, Nat.le_refl _, fun _ _ _ => rfl⟩ hg ⟨b', rfl, k1, k2, k3⟩⟩
  | ok x =>
    obtain ⟨lo, r1⟩ := x
    rw [hn] at hN
    obtain ⟨hf1, hlo⟩ := numberP_ok hn hf
    obtain ⟨t1, r2, rfl⟩ := hf1.cons
    have HN : Hid (RP.numberP c (t :: r) = .ok (lo, t1 :: r2)) := hn
    clear hn h hf
    go_enter Tryz.func251, Tryz.ntmps251
    go_wp2_with fail
    refine hN.mono ?_
    rintro e w1 ⟨hg1, hP1, v, rfl, rfl⟩
    clear hN
    by_cases hc : t1.text = [44]
    · have hA := accept_yes pb t1 r2 c ⟨#[44]⟩ (ba_eq.2 hc) w1 hP1
      have hf2 := hf1.next (.inr (by rw [hc]; simp))
      obtain ⟨t2, r3, rfl⟩ := hf2.cons
      have HC : Hid (t1.text = [44]) := hc
      clear hc hf1 hP1
      go_wp2_with fail
      refine hA.mono ?_
      rintro e w2 ⟨rfl, hP2, hg2⟩
      have hg12 := hg1.trans hg2
      have hI := is_any 2 pb t2 r3 c w2 hP2
      clear hA hg1 hg2
      by_cases h2 : t2.kind = 2
      · have hN2 := number_any pb t2 r3 c (hf2.2 t2 (by simp)) w2 hP2
        have e2 : decide (t2.kind = 2) = true := by simpa using h2
        rw [e2] at hI
        cases hn2 : RP.numberP c (t2 :: r3) with
        | error b =>
          rw [hn2] at hN2
          have HR : Hid (RP.boundsP c (t :: r) = .error b) := by show _ = _; simp [RP.boundsP, RP.hd, HN.out, HC.out, h2, hn2]
          clear hn2 h2 e2 hP2 hf2
          go_wp2_with fail
          refine hI.mono ?_
          rintro e w' ⟨rfl, hw⟩
          obtain rfl := hw.symm
          clear hI
          go_wp2_with fail
          refine hN2.mono ?_
          rintro e w3 ⟨hg, b', rfl, k1, k2, k3⟩
          go_wp2_with fail
          exact ⟨rfl, Step.map HR.out hg12 hg ⟨b', rfl, k1, k2, k3⟩⟩
        | ok x2 =>
          obtain ⟨hi, r4⟩ := x2
          rw [hn2] at hN2
          obtain ⟨hf3, hhi⟩ := numberP_ok hn2 hf2
          obtain ⟨t3, r5, rfl⟩ := hf3.cons
          have HN2 : Hid (RP.numberP c (t2 :: r3) = .ok (hi, t3 :: r5)) := hn2
          have H2 : Hid (t2.kind = 2) := h2
          clear hn2 h2 e2 hP2 hf2
          go_wp2_with fail
          refine hI.mono ?_
          rintro e w' ⟨rfl, hw⟩
          obtain rfl := hw.symm
          clear hI
          go_wp2_with fail
          refine hN2.mono ?_
          rintro e w3 ⟨hg3, hP3, v, rfl, rfl⟩
          have hg123 := hg12.trans hg3
          clear hN2 hg3
          by_cases hlt : hi < lo
          · have HR : Hid (RP.boundsP c (t :: r) = .error ⟨refuseE 2 t3 c, t3.at_⟩) := by show _ = _; simp [RP.boundsP, RP.hd, HN.out, HC.out, H2.out, HN2.out, hlt, refuse_eq]
            have hF := refuse_any 2 pb t3 r5 c w3 hP3
            have hltz : (hi : Int) < (lo : Int) := by omega
            clear hlt
            go_wp2_with fail
            refine hF.mono ?_
            rintro e wm ⟨⟨b, rfl, k1, k2, k3⟩, hbm⟩
            go_wp2_with fail
            exact ⟨rfl, Step.map HR.out hg123 (grown_below hbm _) ⟨b, rfl, k1, k2, k3⟩⟩
          · have HLT : Hid (¬ hi < lo) := hlt
            have hltz : (lo : Int) ≤ (hi : Int) := by omega
            clear hlt
            by_cases hm : t3.text = [125]
            · have HR : Hid (RP.boundsP c (t :: r) = .ok (((lo : Int), (hi : Int)), r5)) := by show _ = _; simp [RP.boundsP, RP.hd, RP.markP, hm, HN.out, HC.out, H2.out, HN2.out, HLT.out]
              have hM := mark_yes pb t3 r5 c ⟨#[125]⟩ (ba_eq.2 hm) w3 hP3
              clear hm
              go_wp2_with fail
              refine hM.mono ?_
              rintro e wm ⟨rfl, hPm, hgm⟩
              have HPm : Hid (PS pb r5 c wm) := hPm
              clear hPm hM
              go_wp2_with fail
              go_ret2
              exact Step.ok HR.out (hg123.trans hgm) HPm.out rfl
            · have HR : Hid (RP.boundsP c (t :: r) = .error ⟨refuseE 3 t3 c, t3.at_⟩) := by show _ = _; simp [RP.boundsP, RP.hd, RP.markP, hm, refuse_eq, HN.out, HC.out, H2.out, HN2.out, HLT.out]
              have hM := mark_no pb t3 r5 c ⟨#[125]⟩ (fun e => hm (ba_eq.1 e)) w3 hP3
              clear hm
              go_wp2_with fail
              refine hM.mono ?_
              rintro e wm ⟨⟨b, rfl, k1, k2, k3⟩, hbm⟩
              go_wp2_with fail
              exact ⟨rfl, Step.map HR.out hg123 (grown_below hbm _) ⟨b, rfl, k1, k2, k3⟩⟩
      · have e2 : decide (t2.kind = 2) = false := by simpa using h2
        rw [e2] at hI
        have H2 : Hid (¬ t2.kind = 2) := h2
        clear h2 e2 hf2
        go_wp2_with fail
        refine hI.mono ?_
        rintro e w' ⟨rfl, hw⟩
        obtain rfl := hw.symm
        clear hI
        by_cases hm : t2.text = [125]
        · have HR : Hid (RP.boundsP c (t :: r) = .ok (((lo : Int), -1), r3)) := by show _ = _; simp [RP.boundsP, RP.hd, RP.markP, hm, HN.out, HC.out, H2.out]
          have hM := mark_yes pb t2 r3 c ⟨#[125]⟩ (ba_eq.2 hm) w2 hP2
          clear hm
          go_wp2_with fail
          refine hM.mono ?_
          rintro e wm ⟨rfl, hPm, hgm⟩
          have HPm : Hid (PS pb r3 c wm) := hPm
          clear hPm hM
          go_wp2_with fail
          go_ret2
          exact Step.ok HR.out (hg12.trans hgm) HPm.out rfl
        · have HR : Hid (RP.boundsP c (t :: r) = .error ⟨refuseE 3 t2 c, t2.at_⟩) := by show _ = _; simp [RP.boundsP, RP.hd, RP.markP, hm, refuse_eq, HN.out, HC.out, H2.out]
          have hM := mark_no pb t2 r3 c ⟨#[125]⟩ (fun e => hm (ba_eq.1 e)) w2 hP2
          clear hm
          go_wp2_with fail
          refine hM.mono ?_
          rintro e wm ⟨⟨b, rfl, k1, k2, k3⟩, hbm⟩
          go_wp2_with fail
          exact ⟨rfl, Step.map HR.out hg12 (grown_below hbm _) ⟨b, rfl, k1, k2, k3⟩⟩
    · have hA := accept_no pb t1 r2 c ⟨#[44]⟩ (fun e => hc (ba_eq.1 e)) w1 hP1
      have HC : Hid (¬ t1.text = [44]) := hc
      clear hc hf1
      go_wp2_with fail
      refine hA.mono ?_
      rintro e w' ⟨rfl, hw⟩
      obtain rfl := hw.symm
      clear hA
      by_cases hm : t1.text = [125]
      · have HR : Hid (RP.boundsP c (t :: r) = .ok (((lo : Int), (lo : Int)), r2)) := by show _ = _; simp [RP.boundsP, RP.hd, RP.markP, hm, HN.out]
        have hM := mark_yes pb t1 r2 c ⟨#[125]⟩ (ba_eq.2 hm) w1 hP1
        clear hm
        go_wp2_with fail
        refine hM.mono ?_
        rintro e wm ⟨rfl, hPm, hgm⟩
        have HPm : Hid (PS pb r2 c wm) := hPm
        clear hPm hM
        go_wp2_with fail
        go_ret2
        exact Step.ok HR.out (hg1.trans hgm) HPm.out rfl
      · have HR : Hid (RP.boundsP c (t :: r) = .error ⟨refuseE 3 t1 c, t1.at_⟩) := by show _ = _; simp [RP.boundsP, RP.hd, RP.markP, hm, refuse_eq, HN.out, HC.out]
        have hM := mark_no pb t1 r2 c ⟨#[125]⟩ (fun e => hm (ba_eq.1 e)) w1 hP1
        clear hm
        go_wp2_with fail
        refine hM.mono ?_
        rintro e wm ⟨⟨b, rfl, k1, k2, k3⟩, hbm⟩
        go_wp2_with fail
        exact ⟨rfl, Step.map HR.out hg1 (grown_below hbm _) ⟨b, rfl, k1, k2, k3⟩⟩

/-- What times hands back. -/
def timesV : Option (Int × Int) → Value
  | none => .tuple #[.int .i64 0, .int .i64 0, .bool false]
  | some x => .tuple #[.int .i64 x.1, .int .i64 x.2, .bool true]

set_option maxHeartbeats 2000000 in
set_option maxRecDepth 100000 in
theorem times_any (pb : Nat) (t : RP.Tok) (r : List RP.Tok) (c : Nat) (hf : RP.Fine (t :: r)) (w : World) (h : PS pb (t :: r) c w) :
    Calls Tryz.prog 237 #[.pointer (some ⟨pb, 0, none⟩)] w (Step pb c w (RP.timesP c (t :: r)) fun x v _ => v = timesV x) := by
  by_cases h42 : t.text = [42]
  · have HR : Hid (RP.timesP c (t :: r) = .ok (some (0, -1), r)) := by show _ = _; simp [RP.timesP, RP.hd, h42]
    have hA := accept_yes pb t r c ⟨#[42]⟩ (ba_eq.2 h42) w h
    clear h h42 hf
    go_enter Tryz.func237, Tryz.ntmps237
    go_wp2_with fail
    refine hA.mono ?_
    rintro e w1 ⟨rfl, hP, hg⟩
    have HP : Hid (PS pb r c w1) := hP
    clear hP hA
    go_wp2_with fail
    go_ret3
    exact Step.ok HR.out hg HP.out rfl
  · skip
    by_cases h43 : t.text = [43]
    · have HR : Hid (RP.timesP c (t :: r) = .ok (some (1, -1), r)) := by show _ = _; simp [RP.timesP, RP.hd, h43]
      have hA := accept_yes pb t r c ⟨#[43]⟩ (ba_eq.2 h43) w h
      have n42 := accept_no pb t r c ⟨#[42]⟩ (fun e => h42 (ba_eq.1 e)) w h
      clear h h43 hf h42
      go_enter Tryz.func237, Tryz.ntmps237
      go_wp2_with fail
      refine n42.mono ?_
      rintro e w' ⟨rfl, hw⟩
      obtain rfl := hw.symm
      clear n42
      go_wp2_with fail
      refine hA.mono ?_
      rintro e w1 ⟨rfl, hP, hg⟩
      have HP : Hid (PS pb r c w1) := hP
      clear hP hA
      go_wp2_with fail
      go_ret3
      exact Step.ok HR.out hg HP.out rfl
    · skip
      by_cases h63 : t.text = [63]
      · have HR : Hid (RP.timesP c (t :: r) = .ok (some (0, 1), r)) := by show _ = _; simp [RP.timesP, RP.hd, h63]
        have hA := accept_yes pb t r c ⟨#[63]⟩ (ba_eq.2 h63) w h
        have n42 := accept_no pb t r c ⟨#[42]⟩ (fun e => h42 (ba_eq.1 e)) w h
        have n43 := accept_no pb t r c ⟨#[43]⟩ (fun e => h43 (ba_eq.1 e)) w h
        clear h h63 hf h42 h43
        go_enter Tryz.func237, Tryz.ntmps237
        go_wp2_with fail
        refine n42.mono ?_
        rintro e w' ⟨rfl, hw⟩
        obtain rfl := hw.symm
        clear n42
        go_wp2_with fail
        refine n43.mono ?_
        rintro e w' ⟨rfl, hw⟩
        obtain rfl := hw.symm
        clear n43
        go_wp2_with fail
        refine hA.mono ?_
        rintro e w1 ⟨rfl, hP, hg⟩
        have HP : Hid (PS pb r c w1) := hP
        clear hP hA
        go_wp2_with fail
        go_ret3
        exact Step.ok HR.out hg HP.out rfl
      · skip
        by_cases h123 : t.text = [123]
        · have hA := accept_yes pb t r c ⟨#[123]⟩ (ba_eq.2 h123) w h
          have hf1 := hf.next (.inr (by rw [h123]; simp))
          obtain ⟨t1, r1, rfl⟩ := hf1.cons
          have n42 := accept_no pb t (t1 :: r1) c ⟨#[42]⟩ (fun e => h42 (ba_eq.1 e)) w h
          have n43 := accept_no pb t (t1 :: r1) c ⟨#[43]⟩ (fun e => h43 (ba_eq.1 e)) w h
          have n63 := accept_no pb t (t1 :: r1) c ⟨#[63]⟩ (fun e => h63 (ba_eq.1 e)) w h
          cases hb : RP.boundsP c (t1 :: r1) with
          | error b =>
            have HR : Hid (RP.timesP c (t :: t1 :: r1) = .error b) := by show _ = _; simp [RP.timesP, RP.hd, h123, hb]
            clear h h123 hf
            go_enter Tryz.func237, Tryz.ntmps237
            go_wp2_with fail
            refine n42.mono ?_
            rintro e w' ⟨rfl, hw⟩
            obtain rfl := hw.symm
            clear n42
            go_wp2_with fail
            refine n43.mono ?_
            rintro e w' ⟨rfl, hw⟩
            obtain rfl := hw.symm
            clear n43
            go_wp2_with fail
            refine n63.mono ?_
            rintro e w' ⟨rfl, hw⟩
            obtain rfl := hw.symm
            clear n63
            go_wp2_with fail
            refine hA.mono ?_
            rintro e w1 ⟨rfl, hP, hg⟩
            have hB := bounds_any pb t1 r1 c hf1 w1 hP
            rw [hb] at hB
            clear hP hA hb
            go_wp2_with fail
            refine hB.mono ?_
            rintro e w2 ⟨hg2, b', rfl, k1, k2, k3⟩
            go_wp2_with fail
            exact ⟨rfl, Step.map HR.out hg hg2 ⟨b', rfl, k1, k2, k3⟩⟩
          | ok x =>
            obtain ⟨⟨lo, hi⟩, r2⟩ := x
            have HR : Hid (RP.timesP c (t :: t1 :: r1) = .ok (some (lo, hi), r2)) := by show _ = _; simp [RP.timesP, RP.hd, h123, hb]
            clear h h123 hf
            go_enter Tryz.func237, Tryz.ntmps237
            go_wp2_with fail
            refine n42.mono ?_
            rintro e w' ⟨rfl, hw⟩
            obtain rfl := hw.symm
            clear n42
            go_wp2_with fail
            refine n43.mono ?_
            rintro e w' ⟨rfl, hw⟩
            obtain rfl := hw.symm
            clear n43
            go_wp2_with fail
            refine n63.mono ?_
            rintro e w' ⟨rfl, hw⟩
            obtain rfl := hw.symm
            clear n63
            go_wp2_with fail
            refine hA.mono ?_
            rintro e w1 ⟨rfl, hP, hg⟩
            have hB := bounds_any pb t1 r1 c hf1 w1 hP
            rw [hb] at hB
            clear hP hA hb
            go_wp2_with fail
            refine hB.mono ?_
            rintro e w2 ⟨hg2, hP2, v, rfl, rfl⟩
            have HP2 : Hid (PS pb r2 c w2) := hP2
            clear hP2 hB
            go_wp2_with fail
            go_ret3
            exact Step.ok HR.out (hg.trans hg2) HP2.out rfl
        · have HR : Hid (RP.timesP c (t :: r) = .ok (none, t :: r)) := by show _ = _; simp [RP.timesP, RP.hd, h42, h43, h63, h123]
          have HP : Hid (PS pb (t :: r) c w) := h
          have n42 := accept_no pb t r c ⟨#[42]⟩ (fun e => h42 (ba_eq.1 e)) w h
          have n43 := accept_no pb t r c ⟨#[43]⟩ (fun e => h43 (ba_eq.1 e)) w h
          have n63 := accept_no pb t r c ⟨#[63]⟩ (fun e => h63 (ba_eq.1 e)) w h
          have n123 := accept_no pb t r c ⟨#[123]⟩ (fun e => h123 (ba_eq.1 e)) w h
          clear h h42 h43 h63 h123 hf
          go_enter Tryz.func237, Tryz.ntmps237
          go_wp2_with fail
          refine n42.mono ?_
          rintro e w' ⟨rfl, hw⟩
          obtain rfl := hw.symm
          clear n42
          go_wp2_with fail
          refine n43.mono ?_
          rintro e w' ⟨rfl, hw⟩
          obtain rfl := hw.symm
          clear n43
          go_wp2_with fail
          refine n63.mono ?_
          rintro e w' ⟨rfl, hw⟩
          obtain rfl := hw.symm
          clear n63
          go_wp2_with fail
          refine n123.mono ?_
          rintro e w' ⟨rfl, hw⟩
          obtain rfl := hw.symm
          clear n123
          go_wp2_with fail
          go_ret3
          exact Step.ok HR.out ⟨rfl, rfl, rfl, Nat.le_refl _, fun _ _ _ => rfl⟩ HP.out rfl

end Go.Proofs.YtjbdlihlcoldlaaGreatDoor.Q
