/- The contract of the document's own Decode: the same units. -/
import Derived.Test.YtneemepjpeohbaaDoorRefE
import Derived.Test.YtneemepjpeohbaaDoorMathC
import Derived.Test.YtneemepjpeohbaaDoorPoints
namespace Go.Proofs.YtneemepjpeohbaaDoor
open Go.RowKit

/-- What is owned below B stays owned. -/
theorem owns_below {w w' : World} {base B : Nat} {e : TypeId} {size : Nat} {v : Value} {n : Nat} {xs : List Value} (h : w.ownsRow base e size v n xs) (hlt : ∀ g, v.ownBlock = some g → g < B) (hb : Below B w w') : w'.ownsRow base e size v n xs := by
  obtain ⟨h1, h2 | ⟨g, cap, cur, rfl, hg, hh, rest⟩⟩ := h
  · exact ⟨h1, Or.inl h2⟩
  · exact ⟨h1, Or.inr ⟨g, cap, cur, rfl, hg, (hb.block g (hlt g rfl)).trans hh, rest⟩⟩

theorem test_eq (q : Nat) (t : ByteArray) : ((refB (q : Int)).toList == t.toList) = (U8.refL q == t.data.toList) := by
  rw [ByteArray.toList_eq, ByteArray.toList_eq]
  congr 1
  unfold refB U8.refL
  split
  · rw [Int.toNat_natCast]
  · rfl

theorem ext_take (s : ByteArray) (k n : Nat) : (s.extract k (k + n)).data.toList = (s.data.toList.drop k).take n := by
  rw [ByteArray.data_extract, Array.toList_extract, List.extract_eq_take_drop, Nat.add_sub_cancel_left]

theorem cells3_one (u : Nat × Nat × Nat) : ∀ v ∈ cells3 u, v.oneCell' = true := by
  intro v hv; simp [cells3] at hv; rcases hv with rfl | rfl | rfl <;> rfl
theorem cells3_new (w : World) (u : Nat × Nat × Nat) : ∀ j v, (cells3 u)[j]? = some v → (w.alloc (.cells #[.int .i64 u.1, .int .i64 u.2.1, .int .i64 u.2.2] 26)).cell? ((⟨w.heap.size, 0, none⟩ : Addr).add j) = some v := by
  intro j v hj
  match j, hj with
  | 0, hj => simp [cells3] at hj; subst hj; simp [Addr.add]
  | 1, hj => simp [cells3] at hj; subst hj; simp [Addr.add]
  | 2, hj => simp [cells3] at hj; subst hj; simp [Addr.add]
  | j + 3, hj => simp [cells3] at hj

theorem ref_mem {w wr w1 : World} {v v' : Value} {us : List (Nat × Nat × Nat)} {u : Nat × Nat × Nat} {B bu : Nat} {o : Obj}
    (hb : Below B w wr) (hB : B ≤ wr.heap.size) (hlt : ∀ g, v.ownBlock = some g → B ≤ g ∧ g < bu) (hbu : bu < wr.heap.size) (c2 : wr.cell? ⟨bu, 2, none⟩ = some (.int .i64 (u.2.2 : Nat)))
    (hown' : w1.ownsRow B 26 3 v' (us.length + 1) (flat us ++ cells3 u)) (hg : (wr.alloc o).grownBy w1 v.ownBlock) :
    w1.cell? ⟨bu, 2, none⟩ = some (.int .i64 (u.2.2 : Nat)) ∧ w1.ownsRow B 26 3 v' (us ++ [u]).length (flat (us ++ [u])) ∧ Below B w w1 := by
  refine ⟨?_, ?_, ?_⟩
  · have h1 : w1.heap[bu]? = (wr.alloc o).heap[bu]? := hg.block _ (by simp; omega) (fun e => by have := hlt _ e.symm; omega)
    rw [World.cell?_of_block (w := wr.alloc o) (w' := w1) (a := ⟨bu, 2, none⟩) h1, World.cell?_alloc_lt _ _ ⟨bu, 2, none⟩ hbu]
    exact c2
  · rw [flat_snoc]; simpa using hown'
  · exact (hb.alloc hB _).grown hg (by simp; omega) (fun k hk => (hlt k hk).1)

theorem below_drew {w w1 : World} (h : Below w.drew.heap.size w.drew w1) : Below w.heap.size w w1 := ⟨h.os, h.tape, h.output, h.size, h.block⟩

theorem after_store {w0 w1 : World} {bu : Nat} {a b c q n : Int} (c0 : w1.cell? ⟨bu, 0, none⟩ = some (.int .i64 a)) (c1 : w1.cell? ⟨bu, 1, none⟩ = some (.int .i64 b)) (c2 : w1.cell? ⟨bu, 2, none⟩ = some (.int .i64 c))
    (y0 : w1.frozen? ⟨bu, 0, none⟩ = false) (y2 : w1.frozen? ⟨bu, 2, none⟩ = false) (hs : bu < w1.heap.size) (hb : Below bu w0 w1) :
    let W := (w1.setCell ⟨bu, 0, none⟩ (.int .i64 q)).setCell ⟨bu, 2, none⟩ (.int .i64 n)
    W.cell? ⟨bu, 0, none⟩ = some (.int .i64 q) ∧ W.cell? ⟨bu, 1, none⟩ = some (.int .i64 b) ∧ W.cell? ⟨bu, 2, none⟩ = some (.int .i64 n) ∧ W.frozen? ⟨bu, 0, none⟩ = false ∧ W.frozen? ⟨bu, 2, none⟩ = false ∧ bu < W.heap.size ∧ Below bu w0 W := by
  refine ⟨?_, ?_, ?_, ?_, ?_, ?_, (hb.setCell (Nat.le_refl _) _).setCell (Nat.le_refl _) _⟩
  · rw [World.cell?_setCell_other _ _ _ _ (by simp)]
    exact World.cell?_setCell_same _ _ _ c0
  · rw [World.cell?_setCell_other _ _ _ _ (by simp), World.cell?_setCell_other _ _ _ _ (by simp)]
    exact c1
  · refine World.cell?_setCell_same _ _ _ (u := .int .i64 c) ?_
    rw [World.cell?_setCell_other _ _ _ _ (by simp)]
    exact c2
  · simpa using y0
  · simpa using y2
  · simpa [World.setCell] using hs

set_option maxHeartbeats 4000000 in
set_option maxRecDepth 100000 in
theorem refDecode_any (s : ByteArray) (hs : s.size ≤ 1000000) (w : World) (_hB : 1 < w.heap.size) :
    Calls Tryd.prog 7 #[.string s] w fun e w' => ∃ v, e = .returned v ∧ w'.ownsRow w.heap.size 26 3 v (U8.dec s.data.toList 0).length (flat (U8.dec s.data.toList 0)) ∧ Below w.heap.size w w' := by
  obtain ⟨i0, hi, hz0, hz1, hz2⟩ := info_parts info26
  go_enter Tryd.func7, Tryd.ntmps7
  go_wp2
  go_loopw [3, 4] (fun v i wr => ∃ k us, k ≤ s.size ∧ i = .int .i64 (k : Nat) ∧ wr.ownsRow w.heap.size 26 3 v (List.length us) (flat us) ∧ us ++ U8.dec (s.data.toList.drop k) k = U8.dec s.data.toList 0 ∧ Below w.heap.size w wr)
    (fun _ i _ => s.size - (intOf i).toNat)
  case atStart => exact ⟨0, [], Nat.zero_le _, rfl, World.ownsRow_nil _ _ _ _, rfl, Below.refl _ _⟩
  case round =>
    obtain ⟨k, us, hk, rfl, hown, hus, hnx⟩ := hrel
    have HU : Hid (us ++ U8.dec (s.data.toList.drop k) k = U8.dec s.data.toList 0) := hus
    clear hus
    have hlen : us.length ≤ s.size := by
      have h1 := U8.dec_length_le s.data.toList 0
      rw [← HU.out] at h1
      simp at h1
      omega
    by_cases hlt : k < s.size
    · obtain ⟨l, hl⟩ : ∃ l, l = s.data.toList.drop k := ⟨_, rfl⟩
      have hll : l.length = s.size - k := by rw [hl]; simp
      have HL : Hid (l = s.data.toList.drop k) := hl
      clear hl
      rename World => wo
      go_wp2_with fail
      go_loopw [6, 7] (fun p n wi => ∃ (j a b : Nat) (m : Int), m = j + 1 ∧ j ≤ 4 ∧ k + j ≤ s.size ∧ n = .int .i64 m ∧ p = .int .i64 (U8.pv l j : Nat) ∧ (a, b) = U8.upto l j ∧
          wi.cell? ⟨wo.heap.size, 0, none⟩ = some (.int .i64 a) ∧ wi.cell? ⟨wo.heap.size, 1, none⟩ = some (.int .i64 k) ∧ wi.cell? ⟨wo.heap.size, 2, none⟩ = some (.int .i64 b) ∧
          wi.frozen? ⟨wo.heap.size, 0, none⟩ = false ∧ wi.frozen? ⟨wo.heap.size, 2, none⟩ = false ∧ wo.heap.size < wi.heap.size ∧ Below wo.heap.size wo wi)
        (fun _ n _ => 5 - (intOf n).toNat)
      case atStart => exact ⟨0, 65533, 1, 1, rfl, by omega, by omega, rfl, rfl, (U8.upto_zero l).symm, by simp, by simp, by simp, by simp, by simp, by simp, (Below.refl _ _).alloc (Nat.le_refl _) _⟩
      case round =>
        obtain ⟨j, a, b, m, hm, hj, hkj, rfl, rfl, hab, a0, a1, a2, z0, z2, hsz, hbi⟩ := hrel
        have HAB : Hid ((a, b) = U8.upto l j) := hab
        clear hab
        by_cases hin : j < 4 ∧ k + j < s.size
        · obtain ⟨hj4, hkjs⟩ := hin
          have hbyte : l.getD j 0 = s[k + j] := by
            rw [HL.out, List.getD_eq_getElem?_getD, List.getElem?_drop, at_list s (k + j) hkjs]; rfl
          have hpl := U8.pv_lt l j hj
          rcases (show j = 0 ∨ j = 1 ∨ j = 2 ∨ j = 3 by omega) with rfl | rfl | rfl | rfl
          · obtain rfl : m = 1 := by omega
            clear hm
            have bl : (s[k]'(by omega)).toNat < 256 := UInt8.toNat_lt _
            have k1 : IntKind.i64.wrap ((k : Int) + 1) = (k : Int) + 1 := by rw [IntKind.wrap_i64]; omega
            have hq : (s[k]'(by omega)).toNat = U8.qv l 1 := by
              show _ = U8.pv l 1
              rw [U8.pv1, hbyte]
              rfl
            have hqp : U8.qv l 1 = U8.pv l 1 := rfl
            have hst := U8.stands_iff l 1 (by omega) (by rw [hll]; omega)
            have hT : ((refB ((U8.qv l 1 : Nat) : Int)).toList == (s.extract k (k + 1)).toList) = decide (U8.first l = some (U8.qv l 1, 1)) := by
              rw [test_eq, Bool.eq_iff_iff, beq_iff_eq, decide_eq_true_iff, ext_take, ← HL.out]
              exact hst
            clear hst
            rw [← hq] at hT
            have HBI : Hid _ := hbi
            clear hbi hbyte
            by_cases hfirst : U8.first l = some (U8.qv l 1, 1)
            · rw [decide_eq_true (by rw [hq]; exact hfirst)] at hT
              have HFI : Hid _ := hfirst
              clear hfirst
              have HQ : Hid _ := hq
              clear hq hqp
              go_wp2_with fail
              go_region_with (go_at_call 19; refine (bytesOf_any _ _).mono ?_; rintro e w1 ⟨rfl, hb1⟩)
              all_goals
                have hb2 := below_drew hb1
                have c0 := (hb2.cell (p := ⟨wo.heap.size, 0, none⟩) (by exact hsz)).trans a0
                have c1 := (hb2.cell (p := ⟨wo.heap.size, 1, none⟩) (by exact hsz)).trans a1
                have c2 := (hb2.cell (p := ⟨wo.heap.size, 2, none⟩) (by exact hsz)).trans a2
                have y0 := (hb2.frozen (p := ⟨wo.heap.size, 0, none⟩) (by exact hsz)).trans z0
                have y2 := (hb2.frozen (p := ⟨wo.heap.size, 2, none⟩) (by exact hsz)).trans z2
                have hsz2 : wo.heap.size < w1.heap.size := Nat.lt_of_lt_of_le hsz hb2.size
                have HB2 : Hid (Below wo.heap.size wo w1) := HBI.out.trans (hb2.mono (Nat.le_of_lt hsz))
                clear hb1 hb2
                go_wp2_with fail
                go_roundw
                case rel =>
                  have R := after_store (q := ((s[k]'(by omega)).toNat : Nat)) (n := 1) c0 c1 c2 y0 y2 hsz2 HB2.out
                  exact ⟨1, U8.qv l 1, 1, 2, rfl, by omega, by omega, rfl, by rw [HQ.out]; rfl, (U8.upto_hit HFI.out).symm, by rw [← HQ.out]; exact R.1, R.2.1, R.2.2.1, R.2.2.2.1, R.2.2.2.2.1, R.2.2.2.2.2.1, R.2.2.2.2.2.2⟩
                case measure => simp [intOf]
            · rw [decide_eq_false (by rw [hq]; exact hfirst)] at hT
              have HFI : Hid _ := hfirst
              clear hfirst
              have HQ : Hid _ := hq
              clear hq hqp
              go_wp2_with fail
              go_region_with (go_at_call 19; refine (bytesOf_any _ _).mono ?_; rintro e w1 ⟨rfl, hb1⟩)
              all_goals
                have hb2 := below_drew hb1
                have c0 := (hb2.cell (p := ⟨wo.heap.size, 0, none⟩) (by exact hsz)).trans a0
                have c1 := (hb2.cell (p := ⟨wo.heap.size, 1, none⟩) (by exact hsz)).trans a1
                have c2 := (hb2.cell (p := ⟨wo.heap.size, 2, none⟩) (by exact hsz)).trans a2
                have y0 := (hb2.frozen (p := ⟨wo.heap.size, 0, none⟩) (by exact hsz)).trans z0
                have y2 := (hb2.frozen (p := ⟨wo.heap.size, 2, none⟩) (by exact hsz)).trans z2
                have hsz2 : wo.heap.size < w1.heap.size := Nat.lt_of_lt_of_le hsz hb2.size
                have HB2 : Hid (Below wo.heap.size wo w1) := HBI.out.trans (hb2.mono (Nat.le_of_lt hsz))
                clear hb1 hb2
                go_wp2_with fail
                go_roundw
                case rel => exact ⟨1, a, b, 2, rfl, by omega, by omega, rfl, by rw [HQ.out]; rfl, HAB.out.trans (U8.upto_miss HFI.out).symm, c0, c1, c2, y0, y2, hsz2, HB2.out⟩
                case measure => simp [intOf]
          · obtain rfl : m = 2 := by omega
            clear hm
            have bl : (s[k + 1]'(by omega)).toNat < 256 := UInt8.toNat_lt _
            have k1 : IntKind.i64.wrap ((k : Int) + 2) = (k : Int) + 2 := by rw [IntKind.wrap_i64]; omega
            have k2 : bits .and .i64 ((s[k + 1]'(by omega)).toNat : Int) 63 = ((s[k + 1]'(by omega)).toNat : Int) % 64 := by
              rw [show (63 : Int) = ((63 : Nat) : Int) from rfl, i64_and_nat _ _ (by omega) (by omega), nat_mask6]; omega
            have hP : (U8.pv l 1 : Int) * 64 + ((s[k + 1]'(by omega)).toNat : Int) % 64 = (U8.pv l 2 : Nat) := by
              have e : U8.pv l 2 = U8.pv l 1 * 64 + (l.getD 1 0).toNat % 64 := rfl
              rw [e, hbyte]; omega
            have k3 : bits .and .i64 ((U8.pv l 2 : Nat) : Int) 2047 = (U8.qv l 2 : Nat) := by
              have e : U8.qv l 2 = U8.pv l 2 % 2 ^ 11 := rfl
              have := U8.pv_lt l 2 (by omega)
              rw [show (2047 : Int) = ((2 ^ 11 - 1 : Nat) : Int) from rfl, i64_and_nat _ _ (by omega) (by omega), Nat.and_two_pow_sub_one_eq_mod, e]
            have hst := U8.stands_iff l 2 (by omega) (by rw [hll]; omega)
            have hT : ((refB ((U8.qv l 2 : Nat) : Int)).toList == (s.extract k (k + 2)).toList) = decide (U8.first l = some (U8.qv l 2, 2)) := by
              rw [test_eq, Bool.eq_iff_iff, beq_iff_eq, decide_eq_true_iff, ext_take, ← HL.out]
              exact hst
            clear hst
            have HBI : Hid _ := hbi
            clear hbi hbyte
            by_cases hfirst : U8.first l = some (U8.qv l 2, 2)
            · rw [decide_eq_true hfirst] at hT
              have HFI : Hid _ := hfirst
              clear hfirst
              go_wp2_with fail
              go_region_with (go_at_call 19; refine (bytesOf_any _ _).mono ?_; rintro e w1 ⟨rfl, hb1⟩)
              all_goals
                have hb2 := below_drew hb1
                have c0 := (hb2.cell (p := ⟨wo.heap.size, 0, none⟩) (by exact hsz)).trans a0
                have c1 := (hb2.cell (p := ⟨wo.heap.size, 1, none⟩) (by exact hsz)).trans a1
                have c2 := (hb2.cell (p := ⟨wo.heap.size, 2, none⟩) (by exact hsz)).trans a2
                have y0 := (hb2.frozen (p := ⟨wo.heap.size, 0, none⟩) (by exact hsz)).trans z0
                have y2 := (hb2.frozen (p := ⟨wo.heap.size, 2, none⟩) (by exact hsz)).trans z2
                have hsz2 : wo.heap.size < w1.heap.size := Nat.lt_of_lt_of_le hsz hb2.size
                have HB2 : Hid (Below wo.heap.size wo w1) := HBI.out.trans (hb2.mono (Nat.le_of_lt hsz))
                clear hb1 hb2
                go_wp2_with fail
                go_roundw
                case rel =>
                  have R := after_store (q := (U8.qv l 2 : Nat)) (n := 2) c0 c1 c2 y0 y2 hsz2 HB2.out
                  exact ⟨2, U8.qv l 2, 2, 3, rfl, by omega, by omega, rfl, rfl, (U8.upto_hit HFI.out).symm, R.1, R.2.1, R.2.2.1, R.2.2.2.1, R.2.2.2.2.1, R.2.2.2.2.2.1, R.2.2.2.2.2.2⟩
                case measure => simp [intOf]
            · rw [decide_eq_false hfirst] at hT
              have HFI : Hid _ := hfirst
              clear hfirst
              go_wp2_with fail
              go_region_with (go_at_call 19; refine (bytesOf_any _ _).mono ?_; rintro e w1 ⟨rfl, hb1⟩)
              all_goals
                have hb2 := below_drew hb1
                have c0 := (hb2.cell (p := ⟨wo.heap.size, 0, none⟩) (by exact hsz)).trans a0
                have c1 := (hb2.cell (p := ⟨wo.heap.size, 1, none⟩) (by exact hsz)).trans a1
                have c2 := (hb2.cell (p := ⟨wo.heap.size, 2, none⟩) (by exact hsz)).trans a2
                have y0 := (hb2.frozen (p := ⟨wo.heap.size, 0, none⟩) (by exact hsz)).trans z0
                have y2 := (hb2.frozen (p := ⟨wo.heap.size, 2, none⟩) (by exact hsz)).trans z2
                have hsz2 : wo.heap.size < w1.heap.size := Nat.lt_of_lt_of_le hsz hb2.size
                have HB2 : Hid (Below wo.heap.size wo w1) := HBI.out.trans (hb2.mono (Nat.le_of_lt hsz))
                clear hb1 hb2
                go_wp2_with fail
                go_roundw
                case rel => exact ⟨2, a, b, 3, rfl, by omega, by omega, rfl, rfl, HAB.out.trans (U8.upto_miss HFI.out).symm, c0, c1, c2, y0, y2, hsz2, HB2.out⟩
                case measure => simp [intOf]
          · obtain rfl : m = 3 := by omega
            clear hm
            have bl : (s[k + 2]'(by omega)).toNat < 256 := UInt8.toNat_lt _
            have k1 : IntKind.i64.wrap ((k : Int) + 3) = (k : Int) + 3 := by rw [IntKind.wrap_i64]; omega
            have k2 : bits .and .i64 ((s[k + 2]'(by omega)).toNat : Int) 63 = ((s[k + 2]'(by omega)).toNat : Int) % 64 := by
              rw [show (63 : Int) = ((63 : Nat) : Int) from rfl, i64_and_nat _ _ (by omega) (by omega), nat_mask6]; omega
            have hP : (U8.pv l 2 : Int) * 64 + ((s[k + 2]'(by omega)).toNat : Int) % 64 = (U8.pv l 3 : Nat) := by
              have e : U8.pv l 3 = U8.pv l 2 * 64 + (l.getD 2 0).toNat % 64 := rfl
              rw [e, hbyte]; omega
            have k3 : bits .and .i64 ((U8.pv l 3 : Nat) : Int) 65535 = (U8.qv l 3 : Nat) := by
              have e : U8.qv l 3 = U8.pv l 3 % 2 ^ 16 := rfl
              have := U8.pv_lt l 3 (by omega)
              rw [show (65535 : Int) = ((2 ^ 16 - 1 : Nat) : Int) from rfl, i64_and_nat _ _ (by omega) (by omega), Nat.and_two_pow_sub_one_eq_mod, e]
            have hst := U8.stands_iff l 3 (by omega) (by rw [hll]; omega)
            have hT : ((refB ((U8.qv l 3 : Nat) : Int)).toList == (s.extract k (k + 3)).toList) = decide (U8.first l = some (U8.qv l 3, 3)) := by
              rw [test_eq, Bool.eq_iff_iff, beq_iff_eq, decide_eq_true_iff, ext_take, ← HL.out]
              exact hst
            clear hst
            have HBI : Hid _ := hbi
            clear hbi hbyte
            by_cases hfirst : U8.first l = some (U8.qv l 3, 3)
            · rw [decide_eq_true hfirst] at hT
              have HFI : Hid _ := hfirst
              clear hfirst
              go_wp2_with fail
              go_region_with (go_at_call 19; refine (bytesOf_any _ _).mono ?_; rintro e w1 ⟨rfl, hb1⟩)
              all_goals
                have hb2 := below_drew hb1
                have c0 := (hb2.cell (p := ⟨wo.heap.size, 0, none⟩) (by exact hsz)).trans a0
                have c1 := (hb2.cell (p := ⟨wo.heap.size, 1, none⟩) (by exact hsz)).trans a1
                have c2 := (hb2.cell (p := ⟨wo.heap.size, 2, none⟩) (by exact hsz)).trans a2
                have y0 := (hb2.frozen (p := ⟨wo.heap.size, 0, none⟩) (by exact hsz)).trans z0
                have y2 := (hb2.frozen (p := ⟨wo.heap.size, 2, none⟩) (by exact hsz)).trans z2
                have hsz2 : wo.heap.size < w1.heap.size := Nat.lt_of_lt_of_le hsz hb2.size
                have HB2 : Hid (Below wo.heap.size wo w1) := HBI.out.trans (hb2.mono (Nat.le_of_lt hsz))
                clear hb1 hb2
                go_wp2_with fail
                go_roundw
                case rel =>
                  have R := after_store (q := (U8.qv l 3 : Nat)) (n := 3) c0 c1 c2 y0 y2 hsz2 HB2.out
                  exact ⟨3, U8.qv l 3, 3, 4, rfl, by omega, by omega, rfl, rfl, (U8.upto_hit HFI.out).symm, R.1, R.2.1, R.2.2.1, R.2.2.2.1, R.2.2.2.2.1, R.2.2.2.2.2.1, R.2.2.2.2.2.2⟩
                case measure => simp [intOf]
            · rw [decide_eq_false hfirst] at hT
              have HFI : Hid _ := hfirst
              clear hfirst
              go_wp2_with fail
              go_region_with (go_at_call 19; refine (bytesOf_any _ _).mono ?_; rintro e w1 ⟨rfl, hb1⟩)
              all_goals
                have hb2 := below_drew hb1
                have c0 := (hb2.cell (p := ⟨wo.heap.size, 0, none⟩) (by exact hsz)).trans a0
                have c1 := (hb2.cell (p := ⟨wo.heap.size, 1, none⟩) (by exact hsz)).trans a1
                have c2 := (hb2.cell (p := ⟨wo.heap.size, 2, none⟩) (by exact hsz)).trans a2
                have y0 := (hb2.frozen (p := ⟨wo.heap.size, 0, none⟩) (by exact hsz)).trans z0
                have y2 := (hb2.frozen (p := ⟨wo.heap.size, 2, none⟩) (by exact hsz)).trans z2
                have hsz2 : wo.heap.size < w1.heap.size := Nat.lt_of_lt_of_le hsz hb2.size
                have HB2 : Hid (Below wo.heap.size wo w1) := HBI.out.trans (hb2.mono (Nat.le_of_lt hsz))
                clear hb1 hb2
                go_wp2_with fail
                go_roundw
                case rel => exact ⟨3, a, b, 4, rfl, by omega, by omega, rfl, rfl, HAB.out.trans (U8.upto_miss HFI.out).symm, c0, c1, c2, y0, y2, hsz2, HB2.out⟩
                case measure => simp [intOf]
          · obtain rfl : m = 4 := by omega
            clear hm
            have bl : (s[k + 3]'(by omega)).toNat < 256 := UInt8.toNat_lt _
            have k1 : IntKind.i64.wrap ((k : Int) + 4) = (k : Int) + 4 := by rw [IntKind.wrap_i64]; omega
            have k2 : bits .and .i64 ((s[k + 3]'(by omega)).toNat : Int) 63 = ((s[k + 3]'(by omega)).toNat : Int) % 64 := by
              rw [show (63 : Int) = ((63 : Nat) : Int) from rfl, i64_and_nat _ _ (by omega) (by omega), nat_mask6]; omega
            have hP : (U8.pv l 3 : Int) * 64 + ((s[k + 3]'(by omega)).toNat : Int) % 64 = (U8.pv l 4 : Nat) := by
              have e : U8.pv l 4 = U8.pv l 3 * 64 + (l.getD 3 0).toNat % 64 := rfl
              rw [e, hbyte]; omega
            have k3 : bits .and .i64 ((U8.pv l 4 : Nat) : Int) 2097151 = (U8.qv l 4 : Nat) := by
              have e : U8.qv l 4 = U8.pv l 4 % 2 ^ 21 := rfl
              have := U8.pv_lt l 4 (by omega)
              rw [show (2097151 : Int) = ((2 ^ 21 - 1 : Nat) : Int) from rfl, i64_and_nat _ _ (by omega) (by omega), Nat.and_two_pow_sub_one_eq_mod, e]
            have hst := U8.stands_iff l 4 (by omega) (by rw [hll]; omega)
            have hT : ((refB ((U8.qv l 4 : Nat) : Int)).toList == (s.extract k (k + 4)).toList) = decide (U8.first l = some (U8.qv l 4, 4)) := by
              rw [test_eq, Bool.eq_iff_iff, beq_iff_eq, decide_eq_true_iff, ext_take, ← HL.out]
              exact hst
            clear hst
            have HBI : Hid _ := hbi
            clear hbi hbyte
            by_cases hfirst : U8.first l = some (U8.qv l 4, 4)
            · rw [decide_eq_true hfirst] at hT
              have HFI : Hid _ := hfirst
              clear hfirst
              go_wp2_with fail
              go_region_with (go_at_call 19; refine (bytesOf_any _ _).mono ?_; rintro e w1 ⟨rfl, hb1⟩)
              all_goals
                have hb2 := below_drew hb1
                have c0 := (hb2.cell (p := ⟨wo.heap.size, 0, none⟩) (by exact hsz)).trans a0
                have c1 := (hb2.cell (p := ⟨wo.heap.size, 1, none⟩) (by exact hsz)).trans a1
                have c2 := (hb2.cell (p := ⟨wo.heap.size, 2, none⟩) (by exact hsz)).trans a2
                have y0 := (hb2.frozen (p := ⟨wo.heap.size, 0, none⟩) (by exact hsz)).trans z0
                have y2 := (hb2.frozen (p := ⟨wo.heap.size, 2, none⟩) (by exact hsz)).trans z2
                have hsz2 : wo.heap.size < w1.heap.size := Nat.lt_of_lt_of_le hsz hb2.size
                have HB2 : Hid (Below wo.heap.size wo w1) := HBI.out.trans (hb2.mono (Nat.le_of_lt hsz))
                clear hb1 hb2
                go_wp2_with fail
                go_roundw
                case rel =>
                  have R := after_store (q := (U8.qv l 4 : Nat)) (n := 4) c0 c1 c2 y0 y2 hsz2 HB2.out
                  exact ⟨4, U8.qv l 4, 4, 5, rfl, by omega, by omega, rfl, rfl, (U8.upto_hit HFI.out).symm, R.1, R.2.1, R.2.2.1, R.2.2.2.1, R.2.2.2.2.1, R.2.2.2.2.2.1, R.2.2.2.2.2.2⟩
                case measure => simp [intOf]
            · rw [decide_eq_false hfirst] at hT
              have HFI : Hid _ := hfirst
              clear hfirst
              go_wp2_with fail
              go_region_with (go_at_call 19; refine (bytesOf_any _ _).mono ?_; rintro e w1 ⟨rfl, hb1⟩)
              all_goals
                have hb2 := below_drew hb1
                have c0 := (hb2.cell (p := ⟨wo.heap.size, 0, none⟩) (by exact hsz)).trans a0
                have c1 := (hb2.cell (p := ⟨wo.heap.size, 1, none⟩) (by exact hsz)).trans a1
                have c2 := (hb2.cell (p := ⟨wo.heap.size, 2, none⟩) (by exact hsz)).trans a2
                have y0 := (hb2.frozen (p := ⟨wo.heap.size, 0, none⟩) (by exact hsz)).trans z0
                have y2 := (hb2.frozen (p := ⟨wo.heap.size, 2, none⟩) (by exact hsz)).trans z2
                have hsz2 : wo.heap.size < w1.heap.size := Nat.lt_of_lt_of_le hsz hb2.size
                have HB2 : Hid (Below wo.heap.size wo w1) := HBI.out.trans (hb2.mono (Nat.le_of_lt hsz))
                clear hb1 hb2
                go_wp2_with fail
                go_roundw
                case rel => exact ⟨4, a, b, 5, rfl, by omega, by omega, rfl, rfl, HAB.out.trans (U8.upto_miss HFI.out).symm, c0, c1, c2, y0, y2, hsz2, HB2.out⟩
                case measure => simp [intOf]
        · have hend : j = 4 ∨ j = l.length := by rw [hll]; omega
          have hunit : U8.unit l = (a, b) := by rw [← U8.upto_end hend]; exact HAB.out.symm
          have hbl := U8.unit_len l (by intro e; rw [e] at hll; simp at hll; omega)
          rw [hunit, hll] at hbl
          simp only at hbl
          have HUN : Hid _ := hunit
          clear hunit hend hll
          have hown2 : wr.ownsRow w.heap.size 26 3 _ us.length (flat us) := owns_below hown (fun g hg => (hown.lt g hg).2) hbi
          have hbw : Below w.heap.size w wr := hnx.trans (hbi.mono hnx.size)
          have B1 : Hid (us.length + 1 ≤ maxLen) := by show _ ≤ _; unfold maxLen; omega
          have B2 : Hid ((us.length + 1) * 24 ≤ 140737488355328) := by show _ ≤ _; omega
          have HB : Hid (w.heap.size ≤ wr.heap.size + 1) := by have := hbw.size; show _ ≤ _; omega
          have HLT : Hid _ := hown.lt
          have HBW : Hid (Below w.heap.size w wr) := hbw
          clear hnx hbi hbw hown
          by_cases hj4 : j = 4
          · obtain rfl : m = 5 := by omega
            clear hm
            go_wp2_with (at_builtin; refine wpList_append_own _ rfl _ _ 23 rfl w.heap.size 26 i0 (.agg #[.int .i64 0, .int .i64 0, .int .i64 0]) 3 24 Tryd.underlying23 hi hz0 hz1 hz2 rfl (by decide) _ _ _ rfl (hown2.alloc _) ⟨wr.heap.size, 0, none⟩ 1 1 (cells3 (a, k, b)) rfl rfl (cells3_new _ _) (cells3_one _) B1.out B2.out (by simpa using HB.out) ?_; intro v' w1 hown' hgrow hnil; have R := ref_mem (u := (a, k, b)) HBW.out HBW.out.size HLT.out hsz a2 hown' hgrow; have R1 := R.1; have R2 : Hid _ := R.2; clear R hown' hgrow hnil hown2)
            go_roundw
            case rel => exact ⟨k + b, us ++ [(a, k, b)], by omega, by go_num, R2.out.1, dec_next (by simpa using hlt) HU.out (by rw [← HL.out]; exact HUN.out), R2.out.2⟩
            case measure => simp [intOf]; omega
          · have hm4 : m ≤ 4 := by omega
            have hmk : (s.size : Int) < k + m := by omega
            clear hm
            go_wp2_with (at_builtin; refine wpList_append_own _ rfl _ _ 23 rfl w.heap.size 26 i0 (.agg #[.int .i64 0, .int .i64 0, .int .i64 0]) 3 24 Tryd.underlying23 hi hz0 hz1 hz2 rfl (by decide) _ _ _ rfl (hown2.alloc _) ⟨wr.heap.size, 0, none⟩ 1 1 (cells3 (a, k, b)) rfl rfl (cells3_new _ _) (cells3_one _) B1.out B2.out (by simpa using HB.out) ?_; intro v' w1 hown' hgrow hnil; have R := ref_mem (u := (a, k, b)) HBW.out HBW.out.size HLT.out hsz a2 hown' hgrow; have R1 := R.1; have R2 : Hid _ := R.2; clear R hown' hgrow hnil hown2)
            go_roundw
            case rel => exact ⟨k + b, us ++ [(a, k, b)], by omega, by go_num, R2.out.1, dec_next (by simpa using hlt) HU.out (by rw [← HL.out]; exact HUN.out), R2.out.2⟩
            case measure => simp [intOf]; omega
    · go_wp2
      go_ret
      refine ⟨_, rfl, ?_, hnx⟩
      have hk' : k = s.size := by omega
      have h1 : us = U8.dec s.data.toList 0 := by
        rw [← HU.out, List.drop_of_length_le (by simp; omega), U8.dec_nil, List.append_nil]
      rw [← h1]
      exact hown
end Go.Proofs.YtneemepjpeohbaaDoor
