/- The walk of caesurakeep.UtfAgain. -/
import Derived.Test.YtneemepjpeohbaaDoorSlices
namespace Go.Proofs.YtneemepjpeohbaaDoor
open Go.RowKit

theorem read_units : U8.dec [97, 195, 164, 255, 237, 160, 128] 0 = [(97, 0, 1), (228, 1, 2), (65533, 3, 1), (65533, 4, 1), (65533, 5, 1), (65533, 6, 1)] := by decide +kernel

set_option maxHeartbeats 1000000 in
set_option maxRecDepth 100000 in
theorem read_any (w : World) (hL : LE w) (hB : 1 < w.heap.size) :
    Calls Tryd.prog 11 #[] w fun e w' => e = .returned (.bool true) ∧ Below w.heap.size w w' := by
  go_enter Tryd.func11, Tryd.ntmps11
  go_wp2_with fail
  refine (decode_any _ (by decide) _ hL hB).mono ?_
  rintro e w1 ⟨vd, rfl, hd, hb1⟩
  rw [show (ByteArray.mk #[97, 195, 164, 255, 237, 160, 128]).data.toList = [97, 195, 164, 255, 237, 160, 128] from rfl, read_units] at hd
  have hdk := hd
  obtain ⟨hl, h2 | ⟨g, cap, cur, rfl, hg, hh, hn, hc, hcs, ht⟩⟩ := hd
  · exact absurd h2.2 (by decide)
  · obtain ⟨a0, a1, a2⟩ := unit_cells hdk 0 (by decide)
    obtain ⟨b0, b1, b2⟩ := unit_cells hdk 1 (by decide)
    obtain ⟨c0, c1, c2⟩ := unit_cells hdk 2 (by decide)
    obtain ⟨d0, d1, d2⟩ := unit_cells hdk 3 (by decide)
    clear hl hg hh hn hc hcs ht hdk
    simp at a0 a1 a2 b0 b1 b2 c0 c1 c2 d0 d1 d2
    go_wp2_with fail
    go_ret
    exact ⟨rfl, hb1⟩

set_option maxHeartbeats 1000000 in
set_option maxRecDepth 100000 in
theorem again_long (s : ByteArray) (h : 300 < s.size) (hs : s.size ≤ maxLen) (w : World) :
    Calls Tryd.prog 5 #[.string s] w fun e w' => e = .returned (.bool true) ∧ Below w.heap.size w w' := by
  unfold maxLen at hs
  go_enter Tryd.func5, Tryd.ntmps5
  go_wp2_with fail
  go_ret
  exact ⟨rfl, Below.refl _ _⟩

theorem pts_length_le (l : List UInt8) : (U8.pts l).length ≤ l.length := by
  unfold U8.pts
  rw [List.length_map]
  exact U8.dec_length_le l 0

set_option maxHeartbeats 1000000 in
set_option maxRecDepth 100000 in
theorem again_short (s : ByteArray) (h : s.size ≤ 300) (w : World) (hL : LE w) (hB : 1 < w.heap.size) :
    Calls Tryd.prog 5 #[.string s] w fun e w' => e = .returned (.bool true) ∧ Below w.heap.size w w' := by
  have hsz : s.data.toList.length = s.size := by simp
  have hpl := pts_length_le s.data.toList
  rw [hsz] at hpl
  have hel := U8.encs_len_le s.data.toList
  rw [hsz] at hel
  clear hsz
  obtain ⟨ps, hps⟩ : ∃ ps, ps = U8.pts s.data.toList := ⟨_, rfl⟩
  have hpt : Hid (∀ p ∈ ps, U8.isPt (p : Nat) = true) := by rw [hps]; exact U8.pts_isPt _
  have HPS : Hid (ps = U8.pts s.data.toList) := hps
  rw [← hps] at hpl hel
  clear hps
  go_enter Tryd.func5, Tryd.ntmps5
  go_wp2_with fail
  refine (read_any _ hL hB).mono ?_
  rintro e w1 ⟨rfl, hb1⟩
  go_wp2_with fail
  have hB1 : 1 < w1.heap.size := by have := hb1.size; omega
  refine (points_any s (by omega) _ (hL.below hb1 hB) hB1).mono ?_
  rintro e w2 ⟨v, rfl, hv, hb2⟩
  rw [← HPS.out] at hv
  have HV : Hid (IntsAt w2.heap.size w2 v (ps.map fun p : Nat => (p : Int))) := ints_of_own hv
  clear hv
  have hb2' : Below w.heap.size w w2 := hb1.trans (hb2.mono hb1.size)
  have hB2 : 1 < w2.heap.size := by have := hb2.size; omega
  clear hb1 hb2 hB1
  go_wp2_with fail
  refine (encode_any v ps hpt.out (by omega) _ (hL.below hb2' hB) hB2 HV.out).mono ?_
  rintro e w3 ⟨rfl, hb3⟩
  obtain ⟨t, ht⟩ : ∃ t : ByteArray, t = ⟨(U8.encs ps).toArray⟩ := ⟨_, rfl⟩
  rw [← ht]
  have HT : Hid (t = ⟨(U8.encs ps).toArray⟩) := ht
  have htl : t.size = (U8.encs ps).length := by rw [ht]; simp [ByteArray.size]
  have hts : t.size ≤ 3 * s.size := by omega
  clear ht htl hel
  have hb3' : Below w.heap.size w w3 := hb2'.trans (hb3.mono hb2'.size)
  have hB3 : 1 < w3.heap.size := by have := hb3.size; omega
  have HV3 : Hid (IntsAt w3.heap.size w3 v (ps.map fun p : Nat => (p : Int))) := HV.out.below hb3 _ hb3.size
  clear HV hb3 hb2' hB2
  have HTP : Hid (U8.pts t.data.toList = ps) := by show _ = _; rw [HT.out]; exact U8.pts_encs ps hpt.out
  go_wp2_with fail
  refine (points_any t (by omega) _ (hL.below hb3' hB) hB3).mono ?_
  rintro e w4 ⟨v4, rfl, hv4, hb4⟩
  rw [HTP.out] at hv4
  have HV4 : Hid (IntsAt w4.heap.size w4 v4 (ps.map fun p : Nat => (p : Int))) := ints_of_own hv4
  clear hv4
  have HV5 : Hid (IntsAt w4.heap.size w4 v (ps.map fun p : Nat => (p : Int))) := HV3.out.below hb4 _ hb4.size
  have hb4' : Below w.heap.size w w4 := hb3'.trans (hb4.mono hb3'.size)
  have hB4 : 1 < w4.heap.size := by have := hb4.size; omega
  clear hb3' hb4 hB3 HV3
  go_wp2_with fail
  refine (equal_any v4 v _ _ (by rw [List.length_map]; omega) (by rw [List.length_map]; omega) _ HV4.out HV5.out).mono ?_
  rintro e w5 ⟨rfl, hb5⟩
  rw [decide_eq_true rfl]
  have hb5' : Below w.heap.size w w5 := hb4'.trans (hb5.mono hb4'.size)
  have hB5 : 1 < w5.heap.size := by have := hb5.size; omega
  have HV6 : Hid (IntsAt w5.heap.size w5 v (ps.map fun p : Nat => (p : Int))) := HV5.out.below hb5 _ hb5.size
  clear hb4' hb5 hB4 HV4 HV5
  go_wp2_with fail
  refine (points_any t (by omega) _ (hL.below hb5' hB) hB5).mono ?_
  rintro e w6 ⟨v6, rfl, hv6, hb6⟩
  rw [HTP.out] at hv6
  have HV7 : Hid (IntsAt w6.heap.size w6 v6 (ps.map fun p : Nat => (p : Int))) := ints_of_own hv6
  clear hv6
  have HV8 : Hid (IntsAt w6.heap.size w6 v (ps.map fun p : Nat => (p : Int))) := HV6.out.below hb6 _ hb6.size
  have hb6' : Below w.heap.size w w6 := hb5'.trans (hb6.mono hb5'.size)
  have hB6 : 1 < w6.heap.size := by have := hb6.size; omega
  clear hb5' hb6 hB5 HV6
  go_wp2_with fail
  refine (encode_any v6 ps hpt.out (by omega) _ (hL.below hb6' hB) hB6 HV7.out).mono ?_
  rintro e w7 ⟨rfl, hb7⟩
  rw [← HT.out]
  have HV9 : Hid (IntsAt w7.heap.size w7 v (ps.map fun p : Nat => (p : Int))) := HV8.out.below hb7 _ hb7.size
  have hb7' : Below w.heap.size w w7 := hb6'.trans (hb7.mono hb6'.size)
  clear hb6' hb7 hB6 HV7 HV8
  go_wp2_with fail
  refine (contains_any v _ _ 65533 (by rw [List.length_map]; omega) _ HV9.out).mono ?_
  rintro e w8 ⟨rfl, rfl⟩
  by_cases hm : (65533 : Int) ∈ ps.map fun p : Nat => (p : Int)
  · rw [decide_eq_true hm]
    clear hm
    go_wp2_with fail
    go_ret
    exact ⟨rfl, hb7'⟩
  · rw [decide_eq_false hm]
    have hts : t = s := by
      have h1 : 65533 ∉ U8.pts s.data.toList := by
        rw [← HPS.out]
        intro g
        exact hm (List.mem_map.2 ⟨65533, g, rfl⟩)
      have h2 := U8.encs_pts_same s.data.toList h1
      rw [← HPS.out] at h2
      rw [HT.out, h2]
    subst hts
    clear hm
    go_wp2_with fail
    go_ret
    exact ⟨rfl, hb7'⟩

theorem again_any (s : ByteArray) (hs : s.size ≤ maxLen) (w : World) (hL : LE w) (hB : 1 < w.heap.size) :
    Calls Tryd.prog 5 #[.string s] w fun e w' => e = .returned (.bool true) ∧ Below w.heap.size w w' := by
  by_cases h : s.size ≤ 300
  · exact again_short s h w hL hB
  · exact again_long s (by omega) hs w

end Go.Proofs.YtneemepjpeohbaaDoor
