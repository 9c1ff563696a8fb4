/- bits.Mul of one and a number; slices.Repeat of one flag. -/
import Derived.Test.YtddjppkpgflbjaaDoorVmAB
import Derived.Test.YtddjppkpgflbjaaDoorRfKM
import Derived.Test.YtddjppkpgflbjaaDoorRHas
import Derived.Laws.CopyRow
import Derived.Deep.RegionHeld3
namespace Go.Proofs.YtddjppkpgflbjaaDoor
open Go.RowKit Go.Shelf

theorem ofInt_u64 (a : Nat) (h : a < 18446744073709551616) : (BitVec.ofInt 64 (a : Int)).toNat = a := by
  rw [BitVec.toNat_ofInt]
  omega

theorem u64_low (a : Nat) (h : a ≤ 100000) : bits .and .u64 (a : Int) 4294967295 = (a : Int) := by
  have e : (4294967295 : Int) = ((4294967295 : Nat) : Int) := rfl
  rw [e]
  show IntKind.u64.wrap ((BitVec.ofInt 64 (a : Int) &&& BitVec.ofInt 64 ((4294967295 : Nat) : Int)).toNat : Int) = _
  rw [BitVec.toNat_and, ofInt_u64 a (by omega), ofInt_u64 4294967295 (by omega)]
  have hm : a &&& 4294967295 = a % 4294967296 := Nat.and_two_pow_sub_one_eq_mod a 32
  rw [hm]
  simp [IntKind.wrap, IntKind.bits, IntKind.signed]
  omega

set_option maxHeartbeats 1000000 in
set_option maxRecDepth 100000 in
theorem mul64_any (N : Nat) (hN : N ≤ 100000) (w : World) :
    Calls Tryd.prog 76 #[.int .u64 1, .int .u64 N] w fun e w' => e = .returned (.tuple #[.int .u64 0, .int .u64 N]) ∧ w' = w := by
  have e1 : bits .and .u64 (1 : Int) 4294967295 = 1 := u64_low 1 (by omega)
  have e0 : bits .and .u64 (0 : Int) 4294967295 = 0 := u64_low 0 (by omega)
  have eN := u64_low N hN
  have hd : (N : Int) / 4294967296 = 0 := by omega
  go_enter Tryd.func76, Tryd.ntmps76
  go_wp2_with fail
  go_ret2
  exact ⟨rfl, rfl⟩

set_option maxHeartbeats 1000000 in
set_option maxRecDepth 100000 in
theorem mul_any (N : Nat) (hN : N ≤ 100000) (w : World) :
    Calls Tryd.prog 66 #[.int .u64 1, .int .u64 N] w fun e w' => e = .returned (.tuple #[.int .u64 0, .int .u64 N]) ∧ w' = w := by
  have C := mul64_any N hN w
  go_enter Tryd.func66, Tryd.ntmps66
  go_wp2_with fail
  refine C.mono ?_
  rintro e w' ⟨rfl, rfl⟩
  clear C
  go_wp2_with fail
  go_ret2
  exact ⟨rfl, rfl⟩

/-- A row of flags of one's own: so many of them, then no. -/
def fillV (el : Bool) (N m : Nat) : List Value := List.replicate m (.bool el) ++ List.replicate (N - m) (.bool false)

theorem fillV_len (el : Bool) {N m : Nat} (h : m ≤ N) : (fillV el N m).length = N := by
  simp [fillV]; omega

theorem fillV_copy (el : Bool) {N m k : Nat} (h : m + k ≤ N) : (fillV el N m).toArray.toList.take m ++ List.replicate k (.bool el) ++ (fillV el N m).toArray.toList.drop (m + k) = fillV el N (m + k) := by
  have e1 : (fillV el N m).take m = List.replicate m (.bool el) := by simp [fillV]
  have e2 : (fillV el N m).drop (m + k) = List.replicate (N - (m + k)) (.bool false) := by
    simp only [fillV, List.drop_append, List.length_replicate, List.drop_replicate]
    rw [show m - (m + k) = 0 by omega, show N - m - (m + k - m) = N - (m + k) by omega]
    simp
  simp only [e1, e2]
  simp only [fillV, List.replicate_append_replicate]

/-- Copying on a row of one's own. -/
theorem fill_step (el : Bool) (g N m sl k : Nat) (w : World) (sc dc : Nat) (xb : Nat) (hm : m ≤ N) (hk : k = Nat.min sl (N - m)) (hg : w.heap[g]? = some (.cells (fillV el N m).toArray 4 (0, 0))) (hx : ∀ j, j < k → w.cell? ⟨xb, j, none⟩ = some (.bool el)) :
    ∃ w2, (∀ ty, (Builtin.copy_ #[75, 75] ty #[.slice (some ⟨g, m, none⟩) (N - m) dc, .slice (some ⟨xb, 0, none⟩) sl sc]).run Tryd.prog w = .ok (.int .i64 (k : Nat)) w2) ∧ w2.heap[g]? = some (.cells (fillV el N (m + k)).toArray 4 (0, 0)) ∧ But (fun j => j = g) w w2 := by
  have hkN : m + k ≤ N := by
    have : k ≤ N - m := by rw [hk]; exact Nat.min_le_right _ _
    omega
  have hs : (Tryd.prog.info? 4).map (·.size) = some 1 := by
    have := info4
    cases h : Tryd.prog.info? 4 with
    | none => rw [h] at this; cases this
    | some i => rw [h] at this; simp at this; simp [this.2.1]
  have e := fun ty => run_copy_row (P := Tryd.prog) w 75 75 ty 4 g m (N - m) dc ⟨xb, 0, none⟩ sl sc (fillV el N m).toArray 4 (List.replicate k (.bool el)) Tryd.underlying75 hs hg (by simpa using hk) (fun j v hj => by
    rw [List.getElem?_replicate] at hj
    split at hj
    · cases hj
      rename_i h
      simpa [Addr.add_lit] using hx j h
    · cases hj) (by simp [fillV_len el hm]; omega) (fun v hv => by rw [List.eq_of_mem_replicate hv]; rfl)
  rw [List.length_replicate, fillV_copy el hkN] at e
  exact ⟨_, e, setRow_heap w g _ _ 4 _ hg, ⟨rfl, rfl, rfl, by simp, fun j _ hj => setRow_other w g j _ hj⟩⟩

theorem fillV_none (el : Bool) (N : Nat) : madeCells #[.bool false] N = (fillV el N 0).toArray := by
  rw [flags_nil]
  congr 1
  unfold flags fillV
  apply List.ext_getElem?
  intro i
  by_cases h : i < N
  · simp [h]
  · simp [h]

theorem fillV_at (el : Bool) {N m j : Nat} (hj : j < m) {w : World} {g : Nat} (hg : w.heap[g]? = some (.cells (fillV el N m).toArray 4 (0, 0))) : w.cell? ⟨g, j, none⟩ = some (.bool el) := by
  rw [cell_of_row w g j _ _ _ hg]
  simp only [List.getElem?_toArray, fillV]
  rw [List.getElem?_append_left (by simpa using hj)]
  simp [hj]

set_option maxHeartbeats 1000000 in
set_option maxRecDepth 100000 in
theorem repeat_any (el : Bool) (N : Nat) (h1 : 1 ≤ N) (hN : N ≤ 1000) (xb sc : Nat) (w : World) (hx : w.cell? ⟨xb, 0, none⟩ = some (.bool el)) :
    Calls Tryd.prog 56 #[.slice (some ⟨xb, 0, none⟩) 1 sc, .int .i64 N] w fun e w' => (∃ g, e = .returned (.slice (some ⟨g, 0, none⟩) N N) ∧ w.heap.size ≤ g ∧ w'.heap[g]? = some (.cells (fillV el N N).toArray 4 (0, 0))) ∧ Below w.heap.size w w' := by
  have C := mul_any N (by omega) w
  have hmk := run_make_row' (P := Tryd.prog) 75 4 (.bool false) 1 Tryd.underlying75 info4 rfl .i64 .i64 N (by omega) (by omega) w
  rw [fillV_none el] at hmk
  have hxl := cell_lt hx
  dsimp only at hxl
  have hg1 : (w.alloc (.cells (fillV el N 0).toArray 4)).heap[w.heap.size]? = some (.cells (fillV el N 0).toArray 4 (0, 0)) := heap_alloc_new _ _
  obtain ⟨w2, hc, hg2, hb2⟩ := fill_step el w.heap.size N 0 1 1 (w.alloc (.cells (fillV el N 0).toArray 4)) sc N xb (Nat.zero_le _) (by rw [Nat.sub_zero]; exact (Nat.min_eq_left h1).symm) hg1 (fun j hj => by
    obtain rfl : j = 0 := by omega
    exact (World.cell?_of_block (w := w) (a := ⟨xb, 0, none⟩) (heap_alloc_old _ _ hxl)).trans hx)
  rw [Nat.sub_zero] at hc
  have HB2 : Hid (Below w.heap.size w w2) := ((Below.refl _ w).alloc (Nat.le_refl _) _).trans (hb2.below (by simp) (fun j hj => by rw [hj]; exact Nat.le_refl _))
  have HG2 : Hid (w2.heap[w.heap.size]? = some (.cells (fillV el N 1).toArray 4 (0, 0))) := hg2
  clear hg1 hg2 hb2
  go_enter Tryd.func56, Tryd.ntmps56
  go_wp2_with fail
  refine C.mono ?_
  rintro e w' ⟨rfl, hw⟩
  rw [hw]
  clear C hw
  go_wp2_with fail
  generalize decide ((N : Int) < 0) = b10
  generalize decide ((9223372036854775807 : Int) < (N : Int)) = b24
  obtain ⟨g, hgw⟩ : ∃ g, g = w.heap.size := ⟨_, rfl⟩
  have HGW : Hid (g = w.heap.size) := hgw
  rw [← hgw] at HG2 ⊢
  clear hc hmk hx hxl hgw
  go_loopw [8] (fun v wr => ∃ m : Nat, v = .int .i64 m ∧ 1 ≤ m ∧ m ≤ N ∧ wr.heap[g]? = some (.cells (fillV el N m).toArray 4 (0, 0)) ∧ Below w.heap.size w wr) (fun v _ => N - (intOf v).toNat)
  case atStart => exact ⟨1, rfl, Nat.le_refl _, h1, HG2.out, HB2.out⟩
  case round =>
    obtain ⟨m, rfl, hm1, hmN, hg, hb⟩ := hrel
    have HG : Hid (wr.heap[g]? = some (.cells (fillV el N m).toArray 4 (0, 0))) := hg
    have HB : Hid (Below w.heap.size w wr) := hb
    by_cases hlt : m < N
    · obtain ⟨w3, hc, hg3, hb3⟩ := fill_step el g N m m (Nat.min m (N - m)) wr.drew N (N - m) g (by omega) rfl hg (fun j hj => fillV_at el (Nat.lt_of_lt_of_le hj (Nat.min_le_left _ _)) hg)
      have hk1 : 1 ≤ Nat.min m (N - m) := Nat.le_min.2 ⟨hm1, by omega⟩
      have hk2 : m + Nat.min m (N - m) ≤ N := by
        have := Nat.min_le_right m (N - m)
        have e : Nat.min m (N - m) ≤ N - m := this
        omega
      generalize Nat.min m (N - m) = k at *
      have HG3 : Hid _ := hg3
      have HB3 : Hid (Below w.heap.size w w3) := (below_drewN hb 1).trans (hb3.below hb.size (fun j hj => by rw [hj, HGW.out]; exact Nat.le_refl _))
      clear hg hb hg3 hb3
      have hmz : (m : Int) < (N : Int) := by omega
      have hmz2 : (m : Int) ≤ (N : Int) := by omega
      have hm0 : (0 : Int) ≤ (m : Int) := by omega
      go_wp2_with fail
      go_region_held3 (fun _ => True) (trivial) ((fail))
      go_wp2_with fail
      case roundEnd =>
        have hw : IntKind.i64.wrap ((m : Int) + (k : Int)) = ((m + k : Nat) : Int) := by rw [wrap_little (by omega) (by omega)]; omega
        rw [hw]
        exact ⟨⟨m + k, rfl, by omega, hk2, HG3.out, HB3.out⟩, by simp [intOf]; omega⟩
    · obtain rfl : m = N := by omega
      clear hg hb
      go_wp2_with fail
      go_ret
      exact ⟨⟨g, rfl, by rw [HGW.out]; exact Nat.le_refl _, HG.out⟩, HB.out⟩

end Go.Proofs.YtddjppkpgflbjaaDoor
