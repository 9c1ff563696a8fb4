/- The document's own RightProgram. -/
import Derived.Test.YtddjppkpgflbjaaDoorRfA
namespace Go.Proofs.YtddjppkpgflbjaaDoor
open Go.RowKit Go.Shelf

set_option maxHeartbeats 4000000 in
set_option maxRecDepth 100000 in
theorem refProg_any (rv : Value) (el : Bool) (rs : List VM.Ru) (w : World) (hR : PairsAt w.heap.size w rv rs) (hn : rs.length ≤ 100000) :
    Calls Tryd.prog 13 #[.agg #[rv, .bool el]] w fun e w' => e = .returned (.bool (VM.rightProg rs)) ∧ Below w.heap.size w w' := by
  obtain ⟨ao, cap, hrv, hc, hcell⟩ := hR
  have HC : Hid _ := hcell
  obtain ⟨n, hN⟩ : ∃ n, n = rs.length := ⟨_, rfl⟩
  have HN : Hid (n = rs.length) := hN
  have HR : Hid (VM.rightProg rs = (decide (n ≤ 20) && rs.all fun r => VM.right r.before && VM.right r.after)) := by
    show _ = _
    rw [hN]; rfl
  rw [← hN] at hrv hc hn
  clear hcell hN
  have HB0 : Hid (Below w.heap.size w (w.alloc (.cells #[rv, .bool el] 28))) := (Below.refl _ w).alloc (Nat.le_refl _) _
  subst hrv
  have hW1 : (w.alloc (.cells #[Value.slice ao n cap, .bool el] 28)).heap.size = w.heap.size + 1 := by simp
  have c0 : (w.alloc (.cells #[Value.slice ao n cap, .bool el] 28)).cell? ⟨w.heap.size, 0, none⟩ = some (Value.slice ao n cap) := by simp
  have HB0' := HB0.out
  have HB1 : Hid (∀ wr, Below (w.heap.size + 1) (w.alloc (.cells #[Value.slice ao n cap, .bool el] 28)) wr → Below w.heap.size w wr) := fun wr h => HB0'.trans (h.mono (by omega))
  have HC0 : Hid (∀ wr, Below (w.heap.size + 1) (w.alloc (.cells #[Value.slice ao n cap, .bool el] 28)) wr → wr.cell? ⟨w.heap.size, 0, none⟩ = some (Value.slice ao n cap)) := fun wr h => (h.cell (p := ⟨w.heap.size, 0, none⟩) (by simp)).trans c0
  have HBR : Hid (Below (w.heap.size + 1) (w.alloc (.cells #[Value.slice ao n cap, .bool el] 28)) (w.alloc (.cells #[Value.slice ao n cap, .bool el] 28))) := Below.refl _ _
  clear c0 HB0'
  go_enter Tryd.func13, Tryd.ntmps13
  go_wp2_with fail
  generalize w.alloc (.cells #[Value.slice ao n cap, .bool el] 28) = W0 at *
  go_loopw [8] (fun i wr => ∃ k : Nat, i = .int .i64 k ∧ k ≤ n ∧ Below (w.heap.size + 1) W0 wr ∧ (rs.all fun r => VM.right r.before && VM.right r.after) = ((rs.drop k).all fun r => VM.right r.before && VM.right r.after)) (fun i _ => n - (intOf i).toNat)
  case atStart => exact ⟨0, rfl, Nat.zero_le _, HBR.out, rfl⟩
  case round =>
    obtain ⟨k, rfl, hk, hb, hall⟩ := hrel
    have d0 := HC0.out wr hb
    have HBW : Hid (Below (w.heap.size + 1) W0 wr) := hb
    have HA : Hid ((rs.all fun r => VM.right r.before && VM.right r.after) = ((rs.drop k).all fun r => VM.right r.before && VM.right r.after)) := hall
    clear hb hall
    by_cases hlt : k < n
    · have hks : k < rs.length := by have := HN.out; omega
      obtain ⟨b, off, rfl, hbw, hcs⟩ := HC.out (fun e => by rw [e] at hks; simp at hks)
      obtain ⟨sv, iv, sv2, iv2, ⟨i0, i1, i2, i3, i4⟩, hpa⟩ := hcs k hks
      have hbel := HB1.out wr HBW.out
      have j0 := (hbel.cell (p := ⟨b, off + k * 5, none⟩) (by exact hbw)).trans i0
      have j1 := (hbel.cell (p := ⟨b, off + k * 5 + 1, none⟩) (by exact hbw)).trans i1
      have j2 := (hbel.cell (p := ⟨b, off + k * 5 + 2, none⟩) (by exact hbw)).trans i2
      have j3 := (hbel.cell (p := ⟨b, off + k * 5 + 3, none⟩) (by exact hbw)).trans i3
      have j4 := (hbel.cell (p := ⟨b, off + k * 5 + 4, none⟩) (by exact hbw)).trans i4
      have HD : Hid (((rs.drop k).all fun r => VM.right r.before && VM.right r.after) = ((VM.right rs[k].before && VM.right rs[k].after) && ((rs.drop (k + 1)).all fun r => VM.right r.before && VM.right r.after))) := by
        show _ = _
        rw [List.drop_eq_getElem_cons hks, List.all_cons]
      generalize rs[k] = r at j0 hpa HD
      obtain ⟨br, cb, ca⟩ := r
      dsimp only at j0 hpa HD
      obtain ⟨⟨a1, n1, p1, rfl⟩, a2, n2, p2, rfl⟩ := hpa.before.slices
      obtain ⟨⟨a3, n3, p3, rfl⟩, a4, n4, p4, rfl⟩ := hpa.after.slices
      have hb0 : Below wr.heap.size wr (wr.alloc (.cells #[.bool br, (.slice a1 n1 p1), (.slice a2 n2 p2), (.slice a3 n3 p3), (.slice a4 n4 p4)] 57)) := (Below.refl _ wr).alloc (Nat.le_refl _) _
      have hpr := hpa.below hbel _ hbel.size
      have C1 := refRight_any (.slice a1 n1 p1) (.slice a2 n2 p2) cb _ (hpr.before.below hb0 _ hb0.size)
      have C2 : ∀ w1, Below (wr.alloc (.cells #[.bool br, (.slice a1 n1 p1), (.slice a2 n2 p2), (.slice a3 n3 p3), (.slice a4 n4 p4)] 57)).heap.size (wr.alloc (.cells #[.bool br, (.slice a1 n1 p1), (.slice a2 n2 p2), (.slice a3 n3 p3), (.slice a4 n4 p4)] 57)) w1 → Calls Tryd.prog 11 #[.agg #[(.slice a3 n3 p3), (.slice a4 n4 p4)]] w1 fun e w' => e = .returned (.bool (VM.right ca)) ∧ Below w1.heap.size w1 w' := fun w1 hw1 =>
        refRight_any (.slice a3 n3 p3) (.slice a4 n4 p4) ca w1 (hpr.after.below (hb0.trans (hw1.mono hb0.size)) _ (Nat.le_trans hb0.size hw1.size))
      have c3 : (wr.alloc (.cells #[.bool br, (.slice a1 n1 p1), (.slice a2 n2 p2), (.slice a3 n3 p3), (.slice a4 n4 p4)] 57)).cell? ⟨wr.heap.size, 3, none⟩ = some (Value.slice a3 n3 p3) := by simp
      have c4 : (wr.alloc (.cells #[.bool br, (.slice a1 n1 p1), (.slice a2 n2 p2), (.slice a3 n3 p3), (.slice a4 n4 p4)] 57)).cell? ⟨wr.heap.size, 4, none⟩ = some (Value.slice a4 n4 p4) := by simp
      have hsz := HBW.out.size
      have HBA : Hid (Below (w.heap.size + 1) W0 (wr.alloc (.cells #[.bool br, (.slice a1 n1 p1), (.slice a2 n2 p2), (.slice a3 n3 p3), (.slice a4 n4 p4)] 57))) := HBW.out.alloc (by omega) _
      generalize VM.right cb = q1 at C1 HD
      generalize VM.right ca = q2 at C2 HD
      clear hcs i0 i1 i2 i3 i4 hbel hpa hpr hb0
      have hkz : (k : Int) < (n : Int) := by omega
      go_wp2_with fail
      refine C1.mono ?_
      rintro e w1 ⟨rfl, hb1⟩
      have D2 := C2 w1 hb1
      have e3 := (hb1.cell (p := ⟨wr.heap.size, 3, none⟩) (by simp)).trans c3
      have e4 := (hb1.cell (p := ⟨wr.heap.size, 4, none⟩) (by simp)).trans c4
      have HBW1 : Hid (Below (w.heap.size + 1) W0 w1) := HBA.out.trans (hb1.mono (by simp; omega))
      clear C1 C2 c3 c4 j0 j1 j2 j3 j4 hb1
      cases q1 with
      | false =>
        clear D2
        go_wp2_with fail
        go_ret
        exact ⟨ret_bool (by rw [HR.out, HA.out, HD.out]; simp), HB1.out _ HBW1.out⟩
      | true =>
        go_wp2_with fail
        refine D2.mono ?_
        rintro e w2 ⟨rfl, hb2⟩
        have HBW2 : Hid (Below (w.heap.size + 1) W0 w2) := HBW1.out.trans (hb2.mono (by have := HBW1.out.size; have := HBW.out.size; omega))
        clear D2 e3 e4 hb2
        cases q2 with
        | false =>
          go_wp2_with fail
          go_ret
          exact ⟨ret_bool (by rw [HR.out, HA.out, HD.out]; simp), HB1.out _ HBW2.out⟩
        | true =>
          go_wp2_with fail
          case roundEnd => exact ⟨⟨k + 1, by go_num, by omega, HBW2.out, by rw [HA.out, HD.out]; simp⟩, by simp [intOf]; omega⟩
    · have HS : Hid ((rs.all fun r => VM.right r.before && VM.right r.after) = true) := by
        show _ = _
        rw [HA.out, List.drop_of_length_le (by have := HN.out; omega)]; rfl
      have hkz : ¬ ((k : Int) < (n : Int)) := by omega
      clear HA
      go_wp2_with fail
      go_ret
      refine ⟨ret_bool ?_, HB1.out _ HBW.out⟩
      rw [HR.out, HS.out, Bool.eq_iff_iff]
      simp
      omega

end Go.Proofs.YtddjppkpgflbjaaDoor
