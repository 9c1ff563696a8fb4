/- The law's own smallProgram. -/
import Derived.Test.YtddjppkpgflbjaaDoorRfCD
import Derived.BigQuiet
import Derived.Deep.QuietTactic
namespace Go.Proofs.YtddjppkpgflbjaaDoor
open Go.RowKit Go.Shelf

/-- A program is little enough to be held. -/
def isSmallProg (rs : List VM.Ru) : Bool := decide (rs.length ≤ 25) && rs.all fun r => isSmall r.before && isSmall r.after

/-- A rule's five cells, however much code it has. -/
structure PairCo (B : Nat) (w : World) (r : VM.Ru) (sv iv sv2 iv2 : Value) : Prop where
  before : CoAt B w sv iv r.before
  after : CoAt B w sv2 iv2 r.after

theorem PairCo.below {B : Nat} {w w' : World} {r : VM.Ru} {sv iv sv2 iv2 : Value} (h : PairCo B w r sv iv sv2 iv2) (hb : Below B w w') (B' : Nat) (hB : B ≤ B') : PairCo B' w' r sv iv sv2 iv2 := ⟨h.before.below hb _ hB, h.after.below hb _ hB⟩

/-- A slice of rules' code, however much it is. -/
def PairsCo (B : Nat) (w : World) (v : Value) (rs : List VM.Ru) : Prop :=
  ∃ ao cap, v = .slice ao rs.length cap ∧ rs.length ≤ cap ∧ (rs ≠ [] → ∃ b off, ao = some ⟨b, off, none⟩ ∧ b < B ∧ ∀ k (h : k < rs.length), ∃ sv iv sv2 iv2,
    (w.cell? ⟨b, off + k * 5, none⟩ = some (.bool rs[k].brk) ∧ w.cell? ⟨b, off + k * 5 + 1, none⟩ = some sv ∧ w.cell? ⟨b, off + k * 5 + 2, none⟩ = some iv ∧ w.cell? ⟨b, off + k * 5 + 3, none⟩ = some sv2 ∧ w.cell? ⟨b, off + k * 5 + 4, none⟩ = some iv2) ∧ PairCo B w rs[k] sv iv sv2 iv2)

theorem PairsCo.below {w w' : World} {B : Nat} {v : Value} {s : List VM.Ru} (h : PairsCo B w v s) (hb : Below B w w') (B' : Nat) (hB : B ≤ B') : PairsCo B' w' v s := by
  obtain ⟨ao, cap, rfl, hc, h⟩ := h
  refine ⟨ao, cap, rfl, hc, fun hz => ?_⟩
  obtain ⟨b, off, e, hbl, hc⟩ := h hz
  refine ⟨b, off, e, by omega, fun k hk => ?_⟩
  obtain ⟨sv, iv, sv2, iv2, ⟨h1, h2, h3, h4, h5⟩, h6⟩ := hc k hk
  exact ⟨sv, iv, sv2, iv2, ⟨(hb.cell (by exact hbl)).trans h1, (hb.cell (by exact hbl)).trans h2, (hb.cell (by exact hbl)).trans h3, (hb.cell (by exact hbl)).trans h4, (hb.cell (by exact hbl)).trans h5⟩, h6.below hb _ hB⟩

theorem small_lens {B : Nat} {w : World} {sv iv : Value} {c : VM.Co} (h : CoAt B w sv iv c) (hs : isSmall c = true) : Small B w sv iv c := by
  unfold isSmall at hs
  simp only [Bool.and_eq_true, decide_eq_true_eq, Bool.not_eq_true', List.any_eq_false] at hs
  obtain ⟨⟨h1, h2⟩, h3⟩ := hs
  exact ⟨h, by omega, by omega, fun s hs => by have := h3 s hs; omega⟩

theorem PairsCo.small {w : World} {B : Nat} {v : Value} {rs : List VM.Ru} (h : PairsCo B w v rs) (hs : ∀ r ∈ rs, isSmall r.before = true ∧ isSmall r.after = true) : PairsAt B w v rs := by
  obtain ⟨ao, cap, rfl, hc, h⟩ := h
  refine ⟨ao, cap, rfl, hc, fun hz => ?_⟩
  obtain ⟨b, off, e, hbl, hc⟩ := h hz
  refine ⟨b, off, e, hbl, fun k hk => ?_⟩
  obtain ⟨sv, iv, sv2, iv2, h1, h2⟩ := hc k hk
  have := hs rs[k] (List.getElem_mem _)
  exact ⟨sv, iv, sv2, iv2, h1, ⟨small_lens h2.before this.1, small_lens h2.after this.2⟩⟩

theorem smallProg_parts {rs : List VM.Ru} (h : isSmallProg rs = true) : rs.length ≤ 25 ∧ ∀ r ∈ rs, isSmall r.before = true ∧ isSmall r.after = true := by
  unfold isSmallProg at h
  rw [Bool.and_eq_true, List.all_eq_true] at h
  refine ⟨of_decide_eq_true h.1, fun r hr => ?_⟩
  have := h.2 r hr
  rwa [Bool.and_eq_true] at this

set_option maxHeartbeats 4000000 in
set_option maxRecDepth 100000 in
theorem smallProg_any (rv : Value) (el : Bool) (rs : List VM.Ru) (w : World) (hR : PairsCo w.heap.size w rv rs) :
    Calls Tryd.prog 6 #[.agg #[rv, .bool el]] w fun e w' => e = .returned (.bool (isSmallProg rs)) ∧ Below w.heap.size w w' := by
  obtain ⟨ao, cap, hrv, hc, hcell⟩ := hR
  have HC : Hid _ := hcell
  obtain ⟨n, hN⟩ : ∃ n, n = rs.length := ⟨_, rfl⟩
  have HN : Hid (n = rs.length) := hN
  have HR : Hid (isSmallProg rs = (decide (n ≤ 25) && rs.all fun r => isSmall r.before && isSmall r.after)) := by
    show _ = _
    rw [hN]; rfl
  rw [← hN] at hrv hc
  clear hcell hN
  have HB0 : Hid (Below w.heap.size w (w.alloc (.cells #[rv, .bool el] 28))) := (Below.refl _ w).alloc (Nat.le_refl _) _
  subst hrv
  by_cases h1 : 25 < n
  · have h1' : (25 : Int) < (n : Int) := by omega
    have HZ : Hid (decide (n ≤ 25) = false) := decide_eq_false (by omega)
    go_enter Tryd.func6, Tryd.ntmps6
    go_wp2_with fail
    go_ret
    exact ⟨ret_bool (by rw [HR.out, HZ.out]; rfl), HB0.out⟩
  have h1' : ¬ (25 : Int) < (n : Int) := by omega
  have HZ : Hid (decide (n ≤ 25) = true) := decide_eq_true (by omega)
  have hW1 : (w.alloc (.cells #[Value.slice ao n cap, .bool el] 28)).heap.size = w.heap.size + 1 := by simp
  have c0 : (w.alloc (.cells #[Value.slice ao n cap, .bool el] 28)).cell? ⟨w.heap.size, 0, none⟩ = some (Value.slice ao n cap) := by simp
  have HB0' := HB0.out
  have HB1 : Hid (∀ wr, Below (w.heap.size + 1) (w.alloc (.cells #[Value.slice ao n cap, .bool el] 28)) wr → Below w.heap.size w wr) := fun wr h => HB0'.trans (h.mono (by omega))
  have HC0 : Hid (∀ wr, Below (w.heap.size + 1) (w.alloc (.cells #[Value.slice ao n cap, .bool el] 28)) wr → wr.cell? ⟨w.heap.size, 0, none⟩ = some (Value.slice ao n cap)) := fun wr h => (h.cell (p := ⟨w.heap.size, 0, none⟩) (by simp)).trans c0
  have HBR : Hid (Below (w.heap.size + 1) (w.alloc (.cells #[Value.slice ao n cap, .bool el] 28)) (w.alloc (.cells #[Value.slice ao n cap, .bool el] 28))) := Below.refl _ _
  clear c0 HB0'
  go_enter Tryd.func6, Tryd.ntmps6
  go_wp2_with fail
  generalize w.alloc (.cells #[Value.slice ao n cap, .bool el] 28) = W0 at *
  go_loopw [3] (fun i wr => ∃ k : Nat, i = .int .i64 k ∧ k ≤ n ∧ Below (w.heap.size + 1) W0 wr ∧ (rs.all fun r => isSmall r.before && isSmall r.after) = ((rs.drop k).all fun r => isSmall r.before && isSmall r.after)) (fun i _ => n - (intOf i).toNat)
  case atStart => exact ⟨0, rfl, Nat.zero_le _, HBR.out, rfl⟩
  case round =>
    obtain ⟨k, rfl, hk, hb, hall⟩ := hrel
    have d0 := HC0.out wr hb
    have HBW : Hid (Below (w.heap.size + 1) W0 wr) := hb
    have HA : Hid ((rs.all fun r => isSmall r.before && isSmall r.after) = ((rs.drop k).all fun r => isSmall r.before && isSmall r.after)) := hall
    clear hb hall
    by_cases hlt : k < n
    · have hks : k < rs.length := by have := HN.out; omega
      obtain ⟨b, off, rfl, hbw, hcs⟩ := HC.out (fun e => by rw [e] at hks; simp at hks)
      obtain ⟨sv, iv, sv2, iv2, ⟨i0, i1, i2, i3, i4⟩, hpa⟩ := hcs k hks
      have hbel := HB1.out wr HBW.out
      have j1 := (hbel.cell (p := ⟨b, off + k * 5 + 1, none⟩) (by exact hbw)).trans i1
      have j2 := (hbel.cell (p := ⟨b, off + k * 5 + 2, none⟩) (by exact hbw)).trans i2
      have j3 := (hbel.cell (p := ⟨b, off + k * 5 + 3, none⟩) (by exact hbw)).trans i3
      have j4 := (hbel.cell (p := ⟨b, off + k * 5 + 4, none⟩) (by exact hbw)).trans i4
      have HD : Hid (((rs.drop k).all fun r => isSmall r.before && isSmall r.after) = ((isSmall rs[k].before && isSmall rs[k].after) && ((rs.drop (k + 1)).all fun r => isSmall r.before && isSmall r.after))) := by
        show _ = _
        rw [List.drop_eq_getElem_cons hks, List.all_cons]
      generalize rs[k] = r at hpa HD
      obtain ⟨br, cb, ca⟩ := r
      dsimp only at hpa HD
      have hpr := hpa.below hbel _ hbel.size
      have C1 := lawSmall_any sv iv cb wr hpr.before
      have C2 : ∀ w1, Below wr.heap.size wr w1 → Calls Tryd.prog 5 #[.agg #[sv2, iv2]] w1 fun e w' => e = .returned (.bool (isSmall ca)) ∧ Below w1.heap.size w1 w' := fun w1 hw1 =>
        lawSmall_any sv2 iv2 ca w1 (hpr.after.below hw1 _ hw1.size)
      have hsz := HBW.out.size
      have hbb : b < wr.heap.size := by have := hbel.size; omega
      generalize isSmall cb = q1 at C1 HD
      generalize isSmall ca = q2 at C2 HD
      clear hcs i0 i1 i2 i3 i4 hbel hpa hpr
      have hkz : (k : Int) < (n : Int) := by omega
      go_wp2_with fail
      refine C1.mono ?_
      rintro e w1 ⟨rfl, hb1⟩
      have D2 := C2 w1 hb1
      have d1 := (hb1.cell (p := ⟨w.heap.size, 0, none⟩) (by simp; omega)).trans d0
      have e3 := (hb1.cell (p := ⟨b, off + k * 5 + 3, none⟩) (by exact hbb)).trans j3
      have e4 := (hb1.cell (p := ⟨b, off + k * 5 + 4, none⟩) (by exact hbb)).trans j4
      have HBW1 : Hid (Below (w.heap.size + 1) W0 w1) := HBW.out.trans (hb1.mono (by omega))
      clear C1 C2 j1 j2 j3 j4 hb1
      cases q1 with
      | false =>
        clear D2
        go_wp2_with fail
        go_ret
        exact ⟨ret_bool (by rw [HR.out, HA.out, HD.out]; simp), HB1.out _ HBW1.out⟩
      | true =>
        go_wp2_with fail
        refine D2.mono ?_
        rintro e w2 ⟨rfl, hb2⟩
        have HBW2 : Hid (Below (w.heap.size + 1) W0 w2) := HBW1.out.trans (hb2.mono (by have := HBW1.out.size; omega))
        clear D2 e3 e4 hb2
        cases q2 with
        | false =>
          go_wp2_with fail
          go_ret
          exact ⟨ret_bool (by rw [HR.out, HA.out, HD.out]; simp), HB1.out _ HBW2.out⟩
        | true =>
          go_wp2_with fail
          case roundEnd => exact ⟨⟨k + 1, by go_num, by omega, HBW2.out, by rw [HA.out, HD.out]; simp⟩, by simp [intOf]; omega⟩
    · have HS : Hid ((rs.all fun r => isSmall r.before && isSmall r.after) = true) := by
        show _ = _
        rw [HA.out, List.drop_of_length_le (by have := HN.out; omega)]; rfl
      have hkz : ¬ ((k : Int) < (n : Int)) := by omega
      clear HA
      go_wp2_with fail
      go_ret
      exact ⟨ret_bool (by rw [HR.out, HS.out, HZ.out]; rfl), HB1.out _ HBW.out⟩

end Go.Proofs.YtddjppkpgflbjaaDoor
