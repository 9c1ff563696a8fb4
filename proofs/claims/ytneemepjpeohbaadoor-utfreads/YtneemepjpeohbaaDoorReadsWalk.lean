/- The walk of caesuralaw.UtfReads. -/
import Derived.Test.YtneemepjpeohbaaDoorRefD
import Derived.Test.YtneemepjpeohbaaDoorIs
import Derived.Test.YtneemepjpeohbaaDoorCovB
namespace Go.Proofs.YtneemepjpeohbaaDoor
open Go.RowKit

set_option maxHeartbeats 1000000 in
set_option maxRecDepth 100000 in
theorem reads_long1 (s : ByteArray) (v : Value) (hs : s.size ≤ maxLen) (h : 500 < s.size) (w : World) :
    Calls Tryd.prog 3 #[.string s, v] w fun e w' => e = .returned (.bool true) ∧ Below w.heap.size w w' := by
  unfold maxLen at hs
  go_enter Tryd.func3, Tryd.ntmps3
  go_wp2_with fail
  go_ret
  exact ⟨rfl, Below.refl _ _⟩

set_option maxHeartbeats 1000000 in
set_option maxRecDepth 100000 in
theorem reads_long2 (s : ByteArray) (ao : Option Addr) (n cap : Nat) (hn : n ≤ maxLen) (h1 : s.size ≤ 500) (h : 200 < n) (w : World) :
    Calls Tryd.prog 3 #[.string s, .slice ao n cap] w fun e w' => e = .returned (.bool true) ∧ Below w.heap.size w w' := by
  unfold maxLen at hn
  go_enter Tryd.func3, Tryd.ntmps3
  go_wp2_with fail
  go_ret
  exact ⟨rfl, Below.refl _ _⟩

/-- What the two Encodes come to, at any list: the same text, and a fault that is the error. -/
theorem both_encode (v : Value) (zs : List Int) (hlen : zs.length ≤ 2000) (w : World) (hF : FI w) (hB : 2 < w.heap.size) (hv : IntsAt w.heap.size w v zs) :
    ∃ (t : ByteArray) (f0 f1 : Int) (er : World → Value → Prop),
      (Calls Tryd.prog 8 #[v] w fun e w' => e = .returned (.tuple #[.string t, .agg #[.int .i64 f0, .int .i64 f1]]) ∧ Below w.heap.size w w') ∧
      (∀ w1, LE w1 → 2 < w1.heap.size → IntsAt w1.heap.size w1 v zs → Calls Tryd.prog 9 #[v] w1 fun e w' => ∃ x, e = .returned (.tuple #[.string t, x]) ∧ er w' x ∧ Below w1.heap.size w1 w') ∧
      (∀ w2 x, er w2 x → ET w2 → Calls Tryd.prog 10 #[x, .agg #[.int .i64 f0, .int .i64 f1]] w2 fun e w' => e = .returned (.bool true) ∧ Below w2.heap.size w2 w') := by
  rcases first_bad zs with ⟨ps, rfl, hpt⟩ | ⟨n, hn, hbad, hgood⟩
  · rw [List.length_map] at hlen
    refine ⟨⟨(U8.encs ps).toArray⟩, 0, -1, fun _ x => x = .nilIface, ?_, ?_, ?_⟩
    · obtain ⟨ao, cap, rfl, h⟩ := hv
      have hlm : (ps.map fun p : Nat => (p : Int)).length = ps.length := List.length_map _
      rw [hlm]
      by_cases hz : ps = []
      · subst hz
        exact refEnc_nil ao cap w hF (by omega)
      · obtain ⟨b, off, rfl, hb, hc⟩ := h (by simpa using hz)
        exact refEnc_some b off cap ps hpt hlen w hF (by omega) hb (fun j hj => by have := hc j (by rw [hlm]; exact hj); simpa using this)
    · intro w1 hL1 hB1 hv1
      refine (encode_any v ps hpt hlen w1 hL1 (by omega) hv1).mono ?_
      rintro e w' ⟨rfl, hb⟩
      exact ⟨_, rfl, rfl, hb⟩
    · rintro w2 x rfl _
      exact is_nil w2
  · have hne : zs ≠ [] := by rintro rfl; simp at hn
    refine ⟨⟨#[]⟩, 1, n, fun w' x => ∃ g, x = .iface 52 (.pointer (some ⟨g, 0, none⟩)) ∧ w'.cell? ⟨g, 0, none⟩ = some (.int .i64 1) ∧ w'.cell? ⟨g, 1, none⟩ = some (.int .i64 n), ?_, ?_, ?_⟩
    · obtain ⟨ao, cap, rfl, h⟩ := hv
      obtain ⟨b, off, rfl, hb, hc⟩ := h hne
      exact refEnc_bad b off cap zs n hn hbad hgood hlen w (by omega) hb hc
    · intro w1 hL1 hB1 hv1
      obtain ⟨ao, cap, rfl, h⟩ := hv1
      obtain ⟨b, off, rfl, hb, hc⟩ := h hne
      refine (encode_bad b off cap zs n hn hbad hgood hlen w1 hL1 (by omega) hb hc).mono ?_
      rintro e w' ⟨g, rfl, _, h0, h1, hb⟩
      exact ⟨_, rfl, ⟨g, rfl, h0, h1⟩, hb⟩
    · rintro w2 x ⟨g, rfl, h0, h1⟩ hT
      exact is_at g 1 n w2 hT h0 h1

set_option maxHeartbeats 2000000 in
set_option maxRecDepth 100000 in
theorem reads_short (s : ByteArray) (lo : Option Addr) (lcap : Nat) (zs : List Int) (hs : s.size ≤ 500) (hzl : zs.length ≤ 200) (w : World) (hL : LE w) (hF : FI w) (hT : ET w) (hB : 2 < w.heap.size) (hl : IntsAt w.heap.size w (.slice lo zs.length lcap) zs) :
    Calls Tryd.prog 3 #[.string s, .slice lo zs.length lcap] w fun e w' => e = .returned (.bool true) ∧ Below w.heap.size w w' := by
  have HLI : Hid (IntsAt w.heap.size w (.slice lo zs.length lcap) zs) := hl
  have HF : Hid (FI w) := hF
  have HT : Hid (ET w) := hT
  clear hl hF hT
  have hsz : s.data.toList.length = s.size := by simp
  have hul := U8.dec_length_le s.data.toList 0
  rw [hsz] at hul
  clear hsz
  obtain ⟨us, hus⟩ : ∃ us, us = U8.dec s.data.toList 0 := ⟨_, rfl⟩
  rw [← hus] at hul
  have HUS : Hid (us = U8.dec s.data.toList 0) := hus
  clear hus
  go_enter Tryd.func3, Tryd.ntmps3
  go_wp2_with fail
  refine (decode_any s (by omega) _ hL (by omega)).mono ?_
  rintro e w1 ⟨va, rfl, hva, hb1⟩
  rw [← HUS.out] at hva
  have hva2 := units_of_own hva
  clear hva
  have hB1 : 2 < w1.heap.size := by have := hb1.size; omega
  go_wp2_with fail
  refine (refDecode_any s (by omega) _ (by omega)).mono ?_
  rintro e w2 ⟨vb, rfl, hvb, hb2⟩
  rw [← HUS.out] at hvb
  have hvb2 := units_of_own hvb
  clear hvb
  have hva3 := hva2.below hb2 w2.heap.size hb2.size
  have hb2' : Below w.heap.size w w2 := hb1.trans (hb2.mono hb1.size)
  have hB2 : 2 < w2.heap.size := by have := hb2.size; omega
  clear hva2 hb1 hb2 hB1
  obtain ⟨ao, acap, rfl, hacap, hac⟩ := hva3
  obtain ⟨bo, bcap, rfl, hbcap, hbc⟩ := hvb2
  have HA : Hid _ := hac
  have HBB : Hid _ := hbc
  clear hac hbc
  go_wp2_with fail
  go_loopw [7] (fun i wr => ∃ k : Nat, k ≤ us.length ∧ i = .int .i64 k ∧ Below w2.heap.size w2 wr) (fun i _ => us.length - (intOf i).toNat)
  case atStart => exact ⟨0, Nat.zero_le _, rfl, Below.refl _ _⟩
  case round =>
    obtain ⟨k, hk, rfl, hnx⟩ := hrel
    by_cases hlt : k < us.length
    · have hne : us ≠ [] := by intro e; rw [e] at hlt; simp at hlt
      obtain ⟨ga, rfl, hga, hac⟩ := HA.out hne
      obtain ⟨gb, rfl, hgb, hbc⟩ := HBB.out hne
      obtain ⟨x0, x1, x2⟩ := hac k hlt
      obtain ⟨y0, y1, y2⟩ := hbc k hlt
      replace x0 := (hnx.cell (p := ⟨ga, k * 3, none⟩) (by exact hga)).trans x0
      replace x1 := (hnx.cell (p := ⟨ga, k * 3 + 1, none⟩) (by exact hga)).trans x1
      replace x2 := (hnx.cell (p := ⟨ga, k * 3 + 2, none⟩) (by exact hga)).trans x2
      replace y0 := (hnx.cell (p := ⟨gb, k * 3, none⟩) (by exact hgb)).trans y0
      replace y1 := (hnx.cell (p := ⟨gb, k * 3 + 1, none⟩) (by exact hgb)).trans y1
      replace y2 := (hnx.cell (p := ⟨gb, k * 3 + 2, none⟩) (by exact hgb)).trans y2
      generalize us[k].1 = p0 at x0 y0
      generalize us[k].2.1 = p1 at x1 y1
      generalize us[k].2.2 = p2 at x2 y2
      clear hac hbc hne
      go_wp2
      go_region
      all_goals go_wp2
      all_goals go_roundw
      case rel => exact ⟨k + 1, by omega, by go_num, hnx.drew⟩
      case measure => simp [intOf]; omega
    · have hb3 : Below w.heap.size w wr := hb2'.trans (hnx.mono hb2'.size)
      have hB3 : 2 < wr.heap.size := by have := hb3.size; omega
      have HLI3 : Hid (IntsAt wr.heap.size wr (.slice lo zs.length lcap) zs) := HLI.out.below hb3 _ hb3.size
      obtain ⟨t, f0, f1, er, E1, E2, E3⟩ := both_encode (.slice lo zs.length lcap) zs (by omega) wr (HF.out.below hb3 (by omega)) hB3 HLI3.out
      have H1 : Hid (Calls Tryd.prog 8 #[.slice lo zs.length lcap] wr fun e w' => e = .returned (.tuple #[.string t, .agg #[.int .i64 f0, .int .i64 f1]]) ∧ Below wr.heap.size wr w') := E1
      have H2 : Hid (∀ w1, LE w1 → 2 < w1.heap.size → IntsAt w1.heap.size w1 (.slice lo zs.length lcap) zs → Calls Tryd.prog 9 #[.slice lo zs.length lcap] w1 fun e w' => ∃ x, e = .returned (.tuple #[.string t, x]) ∧ er w' x ∧ Below w1.heap.size w1 w') := E2
      have H3 : Hid (∀ w2 x, er w2 x → ET w2 → Calls Tryd.prog 10 #[x, .agg #[.int .i64 f0, .int .i64 f1]] w2 fun e w' => e = .returned (.bool true) ∧ Below w2.heap.size w2 w') := E3
      clear E1 E2 E3 hnx hb2' hB2 HA HBB
      go_wp2_with fail
      refine Calls.mono H1.out ?_
      rintro e w4 ⟨rfl, hb4⟩
      have hb4' : Below w.heap.size w w4 := hb3.trans (hb4.mono hb3.size)
      have hB4 : 2 < w4.heap.size := by have := hb4.size; omega
      have HLI4 : Hid (IntsAt (w4.heap.size + 1) (w4.alloc (.cells #[.int .i64 f0, .int .i64 f1] 29)) (.slice lo zs.length lcap) zs) :=
        (HLI3.out.below hb4 _ hb4.size).below ((Below.refl w4.heap.size w4).alloc (Nat.le_refl _) _) _ (Nat.le_succ _)
      clear hb4 hb3 hB3 HLI3
      have hb5 : Below w.heap.size w (w4.alloc (.cells #[.int .i64 f0, .int .i64 f1] 29)) := hb4'.alloc hb4'.size _
      have HB5 : Hid _ := hb5
      clear hb5
      go_wp2_with fail
      refine Calls.mono (H2.out _ (hL.below HB5.out (by omega)) (by simp; omega) (by rw [size_box]; exact HLI4.out)) ?_
      rintro e w6 ⟨x, rfl, hx, hb6⟩
      have HX : Hid (er w6 x) := hx
      clear hx
      have c0 : w6.cell? ⟨w4.heap.size, 0, none⟩ = some (.int .i64 f0) := by rw [hb6.cell (by simp)]; simp
      have c1 : w6.cell? ⟨w4.heap.size, 1, none⟩ = some (.int .i64 f1) := by rw [hb6.cell (by simp)]; simp
      have hb6' : Below w.heap.size w w6 := HB5.out.trans (hb6.mono HB5.out.size)
      clear hb6
      go_wp2_with fail
      refine Calls.mono (H3.out _ x HX.out (HT.out.below hb6' hB)) ?_
      rintro e w7 ⟨rfl, hb7⟩
      have hb7' : Below w.heap.size w w7 := hb6'.trans (hb7.mono hb6'.size)
      clear hb7
      go_wp2_with fail
      go_ret
      exact ⟨rfl, hb7'⟩

theorem reads_any (s : ByteArray) (v : Value) (ao : Option Addr) (cap n : Nat) (zs : List Int) (hv : v = .slice ao n cap) (hzn : zs.length = n) (hs : s.size ≤ maxLen) (hn : n ≤ maxLen) (w : World) (hL : LE w) (hF : FI w) (hT : ET w) (hB : 2 < w.heap.size) (hl : IntsAt w.heap.size w v zs) :
    Calls Tryd.prog 3 #[.string s, v] w fun e w' => e = .returned (.bool true) ∧ Below w.heap.size w w' := by
  subst hzn hv
  by_cases h1 : s.size ≤ 500
  · by_cases h3 : zs.length ≤ 200
    · exact reads_short s ao cap zs h1 h3 w hL hF hT hB hl
    · exact reads_long2 s ao _ cap hn h1 (by omega) w
  · exact reads_long1 s _ hs (by omega) w

end Go.Proofs.YtneemepjpeohbaaDoor
