/- The contract of the parser's number. -/
import Derived.Test.YtjbmdnkpfkelmaaGreatDoorParC
import Derived.Test.YtjbmdnkpfkelmaaGreatDoorSPi
namespace Go.Proofs.YtjbmdnkpfkelmaaGreatDoor.Q
open Go.RowKit Go.Shelf

theorem numVal_snoc (l : List UInt8) (b : UInt8) : RP.numVal (l ++ [b]) = RP.numStep (RP.numVal l) b := by
  unfold RP.numVal
  rw [List.foldl_append]
  rfl

theorem numVal_le (l : List UInt8) : RP.numVal l ≤ 13 := by
  rcases List.eq_nil_or_concat l with rfl | ⟨p, b, rfl⟩
  · simp [RP.numVal]
  · rw [List.concat_eq_append, numVal_snoc]
    unfold RP.numStep
    omega

set_option maxHeartbeats 2000000 in
set_option maxRecDepth 100000 in
theorem number_any (pb : Nat) (t : RP.Tok) (r : List RP.Tok) (c : Nat) (ht : RP.TokOk t) (w : World) (h : PS pb (t :: r) c w) :
    Calls Tryz.prog 83 #[.pointer (some ⟨pb, 0, none⟩)] w (Step pb c w (RP.numberP c (t :: r)) fun x v _ => v = .int .i64 x) := by
  have hI := is_any 2 pb t r c w h
  by_cases h2 : t.kind = 2
  · have e1 : decide (t.kind = 2) = true := by simpa using h2
    rw [e1] at hI
    obtain ⟨tb, off, cap, c0, c1, f0, f1, hc, hcm, t0, t1, t2, -, -, -⟩ := h.open
    obtain ⟨y, hy⟩ : ∃ y : ByteArray, y = ⟨t.text.toArray⟩ := ⟨_, rfl⟩
    have hyl : y.data.toList = t.text := by rw [hy]
    have hys : y.size = t.text.length := by rw [hy]; show t.text.toArray.size = _; simp
    have hym : y.size ≤ 100000 := by rw [hys]; have := ht.1; omega
    rw [← hy] at t2
    have hcv := Lib.run_convert_string_bytes (P := Tryz.prog) w 9 41 5 y (u := .string) Tryz.underlying9 Tryz.underlying41 Tryz.underlying5
    have hB : Hid (∀ j (hj : j < t.text.length), (Lib.bytesWorld w 5 y).cell? ⟨w.heap.size, j, none⟩ = some (.int .u8 (t.text[j].toNat : Int)) ∧ 48 ≤ t.text[j].toNat ∧ t.text[j].toNat ≤ 57) := fun j hj => by
      have h1 := Lib.bytesWorld_cell w 5 y j (by omega)
      rw [hyl] at h1
      have h3 : t.text.getD j 0 = t.text[j] := by simp [hj]
      rw [h3] at h1
      have h4 := ht.2.1 h2 t.text[j] (List.getElem_mem hj)
      unfold RP.digit at h4
      simp at h4
      exact ⟨h1, h4.1, h4.2⟩
    have hbw : Below w.heap.size w (Lib.bytesWorld w 5 y) := below_bytes w y
    have hP1 : PS pb (t :: r) c (Lib.bytesWorld w 5 y) := h.below hbw
    have HF := refuse_any 4 pb t r c _ hP1
    have HT := take_yes pb t r c 2 h2 _ hP1
    unfold tokV at HT
    have HRF : Hid _ := HF
    have HTY : Hid _ := HT
    have HR : Hid (RP.numberP c (t :: r) = if 12 < RP.numVal t.text then .error ⟨refuseE 4 t c, t.at_⟩ else .ok (RP.numVal t.text, r)) := by show _ = _; rw [RP.numberP, if_pos h2, refuse_eq]
    generalize Lib.bytesWorld w 5 y = W1 at hcv hB hbw HRF HTY
    clear HF HT h hP1 h2 e1 hy hyl ht
    go_enter Tryz.func83, Tryz.ntmps83
    go_wp2_with fail
    refine hI.mono ?_
    rintro e w' ⟨rfl, hw⟩
    obtain rfl := hw.symm
    go_wp2_with fail
    go_loop [3, 17] (fun n i => ∃ k : Nat, k ≤ t.text.length ∧ i = .int .i64 k ∧ n = .int .i64 (RP.numVal (t.text.take k) : Nat)) (fun _ i => t.text.length - (intOf i).toNat)
    case atStart => exact ⟨0, Nat.zero_le _, rfl, rfl⟩
    case round =>
      obtain ⟨k, hk, rfl, rfl⟩ := hrel
      have hnl := numVal_le (t.text.take k)
      by_cases hlt : k < t.text.length
      · obtain ⟨b0, b1, b2⟩ := hB.out k hlt
        have HST : Hid (RP.numVal (t.text.take (k + 1)) = RP.numStep (RP.numVal (t.text.take k)) t.text[k]) := by show _ = _; rw [List.take_succ_eq_append_getElem hlt, numVal_snoc]
        generalize t.text[k] = bb at b0 b1 b2 HST
        generalize RP.numVal (t.text.take k) = n at hnl HST
        have HSN : Hid (RP.numVal (t.text.take (k + 1)) = min (10 * n + (bb.toNat - 48)) 13) := HST
        clear HST
        generalize bb.toNat = z at b0 b1 b2 HSN
        have hky : (k : Int) < (y.size : Int) := by omega
        go_wp2_with fail
        exact ⟨⟨k + 1, by omega, by go_num, by rw [HSN.out]; congr 1; omega⟩, by simp [intOf]; omega⟩
      · obtain rfl : k = t.text.length := by omega
        rw [List.take_length] at hnl ⊢
        by_cases h12 : 12 < RP.numVal t.text
        · have HR2 : Hid (RP.numberP c (t :: r) = .error ⟨refuseE 4 t c, t.at_⟩) := by show _ = _; rw [HR.out, if_pos h12]
          have hF := HRF.out
          go_wp2_with fail
          refine Calls.mono hF ?_
          rintro e w2 ⟨⟨b, rfl, k1, k2, k3⟩, hb⟩
          go_wp2_with fail
          refine ⟨rfl, grown_below (hbw.trans (hb.mono hbw.size)) _, ?_⟩
          rw [HR2.out]
          exact ⟨b, rfl, k1, Nat.le_trans hbw.size k2, k3⟩
        · have HR2 : Hid (RP.numberP c (t :: r) = .ok (RP.numVal t.text, r)) := by show _ = _; rw [HR.out, if_neg h12]
          have hF := HTY.out
          go_wp2_with fail
          refine Calls.mono hF ?_
          rintro e w2 ⟨rfl, hP, hg⟩
          have HP : Hid (PS pb r c w2) := hP
          clear hP hF hI
          go_wp2_with fail
          go_ret
          refine ⟨(grown_below hbw _).trans hg, ?_⟩
          rw [HR2.out]
          exact ⟨HP.out, _, rfl, rfl⟩
  · have e1 : decide (t.kind = 2) = false := by simpa using h2
    rw [e1] at hI
    have HR : Hid (RP.numberP c (t :: r) = .error ⟨refuseE 3 t c, t.at_⟩) := by show _ = _; rw [RP.numberP, if_neg h2, refuse_eq]
    have hF := take_no pb t r c 2 h2 w h
    clear h h2 e1 ht
    go_enter Tryz.func83, Tryz.ntmps83
    go_wp2_with fail
    refine hI.mono ?_
    rintro e w' ⟨rfl, hw⟩
    obtain rfl := hw.symm
    go_wp2_with fail
    refine hF.mono ?_
    rintro e w2 ⟨⟨b, rfl, k1, k2, k3⟩, hb⟩
    go_wp2_with fail
    refine ⟨rfl, grown_below hb _, ?_⟩
    rw [HR.out]
    exact ⟨b, rfl, k1, k2, k3⟩

end Go.Proofs.YtjbmdnkpfkelmaaGreatDoor.Q
