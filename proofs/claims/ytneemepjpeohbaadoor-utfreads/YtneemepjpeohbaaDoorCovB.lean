/- The walk of caesurakeep.UtfCovers. -/
import Derived.Test.YtneemepjpeohbaaDoorCovA
namespace Go.Proofs.YtneemepjpeohbaaDoor
open Go.RowKit

set_option maxHeartbeats 1000000 in
set_option maxRecDepth 100000 in
theorem covers_long1 (s u : ByteArray) (v : Value) (hs : s.size ≤ maxLen) (h : 300 < s.size) (w : World) :
    Calls Tryd.prog 4 #[.string s, .string u, v] w fun e w' => e = .returned (.bool true) ∧ Below w.heap.size w w' := by
  unfold maxLen at hs
  go_enter Tryd.func4, Tryd.ntmps4
  go_wp2_with fail
  go_ret
  exact ⟨rfl, Below.refl _ _⟩

set_option maxHeartbeats 1000000 in
set_option maxRecDepth 100000 in
theorem covers_long2 (s u : ByteArray) (v : Value) (hu : u.size ≤ maxLen) (h1 : s.size ≤ 300) (h : 300 < u.size) (w : World) :
    Calls Tryd.prog 4 #[.string s, .string u, v] w fun e w' => e = .returned (.bool true) ∧ Below w.heap.size w w' := by
  unfold maxLen at hu
  go_enter Tryd.func4, Tryd.ntmps4
  go_wp2_with fail
  go_ret
  exact ⟨rfl, Below.refl _ _⟩

set_option maxHeartbeats 1000000 in
set_option maxRecDepth 100000 in
theorem covers_long3 (s u : ByteArray) (ao : Option Addr) (n cap : Nat) (hn : n ≤ maxLen) (h1 : s.size ≤ 300) (h2 : u.size ≤ 300) (h : 100 < n) (w : World) :
    Calls Tryd.prog 4 #[.string s, .string u, .slice ao n cap] w fun e w' => e = .returned (.bool true) ∧ Below w.heap.size w w' := by
  unfold maxLen at hn
  go_enter Tryd.func4, Tryd.ntmps4
  go_wp2_with fail
  go_ret
  exact ⟨rfl, Below.refl _ _⟩

set_option maxHeartbeats 1000000 in
set_option maxRecDepth 100000 in
theorem equalU_nil (ao bo : Option Addr) (ca cb : Nat) (w : World) :
    Calls Tryd.prog 12 #[.slice ao 0 ca, .slice bo 0 cb] w fun e w' => e = .returned (.bool true) ∧ w' = w := by
  go_enter Tryd.func12, Tryd.ntmps12
  go_wp2_with fail
  refine wp_loop_rounds 1 ?_
  rw [rounds_succ]
  go_wp2_with fail
  go_ret
  exact ⟨rfl, rfl⟩

theorem equalU_any (a ca : Nat) (us us2 : List (Nat × Nat × Nat)) (ao : Option Addr) (cb : Nat) (hlen : us.length ≤ 1000000) (w : World)
    (ha : a < w.heap.size) (hx : ∀ k (h : k < (us ++ us2).length), w.cell? ⟨a, k * 3, none⟩ = some (.int .i64 ((us ++ us2)[k].1 : Nat)) ∧ w.cell? ⟨a, k * 3 + 1, none⟩ = some (.int .i64 ((us ++ us2)[k].2.1 : Nat)) ∧ w.cell? ⟨a, k * 3 + 2, none⟩ = some (.int .i64 ((us ++ us2)[k].2.2 : Nat)))
    (hb : UnitsAt w.heap.size w (.slice ao us.length cb) us) :
    Calls Tryd.prog 12 #[.slice (some ⟨a, 0, none⟩) us.length ca, .slice ao us.length cb] w fun e w' => e = .returned (.bool true) ∧ Below w.heap.size w w' := by
  obtain ⟨ao', cb', e, hcap, hb⟩ := hb
  obtain ⟨rfl, rfl⟩ : ao = ao' ∧ cb = cb' := by simpa using e
  by_cases hz : us = []
  · subst hz
    refine (equalU_nil _ _ _ _ w).mono ?_
    rintro e w' ⟨rfl, rfl⟩
    exact ⟨rfl, Below.refl _ _⟩
  · obtain ⟨b, rfl, hbl, hc⟩ := hb hz
    refine equalU_some a b ca cb us hlen w ha hbl (fun k h => ?_) hc
    have := hx k (by simp; omega)
    simpa [List.getElem_append_left h] using this

theorem sum_take (us : List (Nat × Nat × Nat)) (k : Nat) (h : k < us.length) : U8.sumLen (us.take (k + 1)) = U8.sumLen (us.take k) + us[k].2.2 := by
  unfold U8.sumLen
  rw [List.take_succ_eq_append_getElem h, List.map_append, List.sum_append]
  simp

theorem sum_le (us : List (Nat × Nat × Nat)) (k : Nat) : U8.sumLen (us.take k) ≤ U8.sumLen us := by
  conv => rhs; rw [← List.take_append_drop k us]
  unfold U8.sumLen
  rw [List.map_append, List.sum_append]
  omega

theorem first_bad : ∀ zs : List Int, (∃ ps : List Nat, zs = ps.map (fun p : Nat => (p : Int)) ∧ ∀ p ∈ ps, U8.isPt (p : Nat) = true) ∨ ∃ n, ∃ h : n < zs.length, U8.isPt zs[n] = false ∧ ∀ j (hj : j < n), U8.isPt (zs[j]'(by omega)) = true
  | [] => .inl ⟨[], rfl, by simp⟩
  | z :: zs => by
    cases hz : U8.isPt z with
    | false => exact .inr ⟨0, by simp, hz, fun j hj => absurd hj (by omega)⟩
    | true =>
      obtain ⟨q, rfl⟩ := Int.eq_ofNat_of_zero_le ((U8.isPt_iff z).1 hz).1
      rcases first_bad zs with ⟨ps, e, h⟩ | ⟨n, hn, h1, h2⟩
      · refine .inl ⟨q :: ps, by rw [e]; rfl, fun p hp => ?_⟩
        rcases List.mem_cons.1 hp with rfl | hp
        · exact hz
        · exact h p hp
      · refine .inr ⟨n + 1, by simpa using hn, by simpa using h1, fun j hj => ?_⟩
        cases j with
        | zero => simpa using hz
        | succ j => simpa using h2 j (by omega)

theorem cat_list (s u : ByteArray) : (s ++ (⟨#[122]⟩ : ByteArray) ++ u).data.toList = s.data.toList ++ 122 :: u.data.toList := by
  simp [ByteArray.data_append]
theorem cat_size (s u : ByteArray) : (s ++ (⟨#[122]⟩ : ByteArray) ++ u).size = s.size + 1 + u.size := by
  simp [ByteArray.size_append]; rfl

set_option maxHeartbeats 2000000 in
set_option maxRecDepth 100000 in
theorem covers_short (s u : ByteArray) (lo : Option Addr) (lcap : Nat) (zs : List Int) (hs : s.size ≤ 300) (hu : u.size ≤ 300) (hzl : zs.length ≤ 100) (w : World) (hL : LE w) (hB : 1 < w.heap.size) (hl : IntsAt w.heap.size w (.slice lo zs.length lcap) zs) :
    Calls Tryd.prog 4 #[.string s, .string u, .slice lo zs.length lcap] w fun e w' => e = .returned (.bool true) ∧ Below w.heap.size w w' := by
  have HLI : Hid (IntsAt w.heap.size w (.slice lo zs.length lcap) zs) := hl
  clear hl
  have hsz : s.data.toList.length = s.size := by simp
  have hul := U8.dec_length_le s.data.toList 0
  have hsum := U8.dec_sum s.data.toList 0
  have hat := U8.dec_at s.data.toList 0
  have hln := U8.dec_lens s.data.toList 0
  have hah := U8.dec_ahead 122 (by decide) u.data.toList s.data.toList 0
  rw [hsz] at hul hsum
  clear hsz
  obtain ⟨us, hus⟩ : ∃ us, us = U8.dec s.data.toList 0 := ⟨_, rfl⟩
  rw [← hus] at hul hsum hat hln hah
  have HUS : Hid (us = U8.dec s.data.toList 0) := hus
  have HSUM : Hid (U8.sumLen us = s.size) := hsum
  have HAT : Hid _ := hat
  have HLN : Hid _ := hln
  have HAH : Hid _ := hah
  clear hus hsum hat hln hah
  go_enter Tryd.func4, Tryd.ntmps4
  go_wp2_with fail
  refine (read_any _ hL hB).mono ?_
  rintro e w1 ⟨rfl, hb1⟩
  have hB1 : 1 < w1.heap.size := by have := hb1.size; omega
  go_wp2_with fail
  refine (decode_any s (by omega) _ (hL.below hb1 hB) hB1).mono ?_
  rintro e w2 ⟨va, rfl, hva, hb2⟩
  rw [← HUS.out] at hva
  have hvu := units_of_own hva
  clear hva
  have hb2' : Below w.heap.size w w2 := hb1.trans (hb2.mono hb1.size)
  have hB2 : 1 < w2.heap.size := by have := hb2.size; omega
  clear hb1 hb2 hB1
  have HVU : Hid _ := hvu
  obtain ⟨ao, acap, rfl, hacap, hcells⟩ := hvu
  have HCE : Hid _ := hcells
  clear hcells
  go_wp2_with fail
  go_loop [7, 9] (fun a i => ∃ k : Nat, k ≤ us.length ∧ i = .int .i64 k ∧ a = .int .i64 (U8.sumLen (us.take k) : Nat)) (fun _ i => us.length - (intOf i).toNat)
  case atStart => exact ⟨0, Nat.zero_le _, rfl, rfl⟩
  case round =>
    obtain ⟨k, hk, rfl, rfl⟩ := hrel
    by_cases hlt : k < us.length
    · obtain ⟨b, rfl, hbl, hc⟩ := HCE.out (by intro e; rw [e] at hlt; simp at hlt)
      obtain ⟨c0, c1, c2⟩ := hc k hlt
      clear hc
      have ha := HAT.out k hlt
      rw [Nat.zero_add] at ha
      rw [ha] at c1
      have hl1 := HLN.out us[k] (List.getElem_mem hlt)
      have hst := sum_take us k hlt
      have hsl := sum_le us k
      have hss := HSUM.out
      have HST : Hid _ := hst
      clear ha hst
      generalize hL1 : us[k].2.2 = L at c2 hl1 HST
      clear hL1
      generalize hA1 : U8.sumLen (us.take k) = A at c1 hsl HST ⊢
      clear hA1
      rw [hss] at hsl
      clear hss
      go_wp2_with fail
      go_round
      case rel => exact ⟨k + 1, by omega, by go_num, by rw [HST.out]; go_num⟩
      case measure => simp [intOf]; omega
    · obtain rfl : k = us.length := by omega
      rw [List.take_length, HSUM.out]
      clear hlt hk HCE
      go_wp2_with fail
      refine (decode_any _ (by rw [cat_size]; omega) _ (hL.below hb2' hB) hB2).mono ?_
      rintro e w3 ⟨vb, rfl, hvb, hb3⟩
      rw [cat_list, HAH.out] at hvb
      have hvbu := units_of_own hvb
      clear hvb
      obtain ⟨bo, bcap, rfl, hbcap, hbc⟩ := hvbu
      obtain ⟨gb, rfl, hgb, hbcell⟩ := hbc (by simp)
      have hz := (hbcell us.length (by simp)).1
      rw [List.getElem_append_right (Nat.le_refl _)] at hz
      simp only [Nat.sub_self, List.getElem_cons_zero] at hz
      have HBC : Hid _ := hbcell
      clear hbc hbcell
      have hvl : ∃ n2 : Nat, (us ++ (UInt8.toNat 122, 0 + s.data.toList.length, 1) :: U8.dec u.data.toList (0 + s.data.toList.length + 1)).length = us.length + 1 + n2 ∧ n2 ≤ 300 := by
        refine ⟨(U8.dec u.data.toList (0 + s.data.toList.length + 1)).length, by rw [List.length_append, List.length_cons]; omega, ?_⟩
        have := U8.dec_length_le u.data.toList (0 + s.data.toList.length + 1)
        simp only [Array.length_toList] at this
        exact Nat.le_trans this hu
      obtain ⟨n2, hn2, hn3⟩ := hvl
      rw [hn2] at hbcap ⊢
      have hb3' : Below w.heap.size w w3 := hb2'.trans (hb3.mono hb2'.size)
      have hB3 : 1 < w3.heap.size := by have := hb3.size; omega
      have HVU3 : Hid (UnitsAt w3.heap.size w3 (.slice ao us.length acap) us) := UnitsAt.below HVU.out hb3 _ hb3.size
      clear hb2' hB2 hb3 HVU hn2
      go_wp2_with fail
      refine (equalU_any gb bcap us _ ao acap (by omega) _ hgb HBC.out HVU3.out).mono ?_
      rintro e w4 ⟨rfl, hb4⟩
      have hz4 : w4.cell? ⟨gb, us.length * 3, none⟩ = some (.int .i64 122) := (hb4.cell (by exact hgb)).trans hz
      have hb4' : Below w.heap.size w w4 := hb3'.trans (hb4.mono hb3'.size)
      have hB4 : 1 < w4.heap.size := by have := hb4.size; omega
      have HLI4 : Hid (IntsAt w4.heap.size w4 (.slice lo zs.length lcap) zs) := HLI.out.below hb4' _ hb4'.size
      clear hb3' hB3 hb4 HVU3 HBC hz HLI
      go_wp2_with fail
      rcases first_bad zs with ⟨ps, hps, hpt⟩ | ⟨n, hn, hbad, hgood⟩
      · have HZS : Hid (zs = ps.map fun p : Nat => (p : Int)) := hps
        have hpl : ps.length = zs.length := by rw [hps, List.length_map]
        have HPT : Hid (∀ p ∈ ps, U8.isPt (p : Nat) = true) := hpt
        clear hps hpt
        refine (encode_any _ ps HPT.out (by omega) _ (hL.below hb4' hB) hB4 (by rw [← HZS.out]; exact HLI4.out)).mono ?_
        rintro e w5 ⟨rfl, hb5⟩
        have hel := encs_le ps
        have HTP : Hid (U8.pts (⟨(U8.encs ps).toArray⟩ : ByteArray).data.toList = ps) := U8.pts_encs ps HPT.out
        have hts : (⟨(U8.encs ps).toArray⟩ : ByteArray).size ≤ 1000 := by simp only [ByteArray.size, List.size_toArray]; omega
        generalize (⟨(U8.encs ps).toArray⟩ : ByteArray) = t at HTP hts ⊢
        have hb5' : Below w.heap.size w w5 := hb4'.trans (hb5.mono hb4'.size)
        have hB5 : 1 < w5.heap.size := by have := hb5.size; omega
        have HLI5 : Hid (IntsAt w5.heap.size w5 (.slice lo zs.length lcap) zs) := HLI4.out.below hb5 _ hb5.size
        clear hb5 hb4' HLI4 hB4 hel
        go_wp2_with fail
        refine (decode_any t (by omega) _ (hL.below hb5' hB) hB5).mono ?_
        rintro e w6 ⟨vc, rfl, hvc, hb6⟩
        obtain ⟨cs, hcs⟩ : ∃ cs, cs = U8.dec t.data.toList 0 := ⟨_, rfl⟩
        rw [← hcs] at hvc
        have HCS : Hid (cs.map (·.1) = ps) := by show _ = _; rw [hcs]; exact HTP.out
        clear hcs
        have hcl : cs.length = zs.length := by rw [← hpl, ← HCS.out, List.length_map]
        have hvcu := units_of_own hvc
        clear hvc
        obtain ⟨co, ccap, rfl, hccap, hcc⟩ := hvcu
        rw [hcl]
        have HCC : Hid _ := hcc
        clear hcc
        have hb6' : Below w.heap.size w w6 := hb5'.trans (hb6.mono hb5'.size)
        have hli := HLI5.out.below hb6 w6.heap.size hb6.size
        obtain ⟨lo', lcap', e, hli⟩ := hli
        obtain ⟨rfl, rfl⟩ : lo = lo' ∧ lcap = lcap' := by simpa using e
        have HLI6 : Hid _ := hli
        have HKEY : Hid (∀ k (h : k < cs.length), zs[k]? = some ((cs[k].1 : Nat) : Int)) := by
          intro k h
          rw [HZS.out, ← HCS.out]
          simp [h]
        have HCL : Hid (cs.length = zs.length) := hcl
        clear hb5' hb6 hB5 HLI5 hli hcl
        go_wp2_with fail
        go_loopw [14] (fun i wr => ∃ k : Nat, k ≤ zs.length ∧ i = .int .i64 k ∧ Below w6.heap.size w6 wr) (fun i _ => zs.length - (intOf i).toNat)
        case atStart => exact ⟨0, Nat.zero_le _, rfl, Below.refl _ _⟩
        case round =>
          obtain ⟨k, hk, rfl, hnx⟩ := hrel
          by_cases hlt : k < zs.length
          · have hltc : k < cs.length := by rw [HCL.out]; exact hlt
            obtain ⟨lb, loff, rfl, hlb, hlc⟩ := HLI6.out (by intro e; rw [e] at hlt; simp at hlt)
            obtain ⟨gc, rfl, hgc, hcc⟩ := HCC.out (by intro e; rw [e] at hltc; simp at hltc)
            have c1 := (hnx.cell (p := ⟨gc, k * 3, none⟩) (by exact hgc)).trans (hcc k hltc).1
            have c2 := (hnx.cell (p := ⟨lb, loff + k, none⟩) (by exact hlb)).trans (hlc k hlt)
            have hkey := HKEY.out k hltc
            rw [List.getElem?_eq_getElem hlt, Option.some.injEq] at hkey
            rw [hkey] at c2
            generalize cs[k].1 = p at c1 c2
            clear hlc hcc hkey
            go_wp2
            go_region
            all_goals go_wp2
            all_goals go_roundw
            case rel => exact ⟨k + 1, by omega, by go_num, hnx.drew⟩
            case measure => simp [intOf]; omega
          · go_wp2_with fail
            go_ret
            exact ⟨rfl, hb6'.trans (hnx.mono hb6'.size)⟩
      · have hli := HLI4.out
        obtain ⟨lo', lcap', e, hli⟩ := hli
        obtain ⟨rfl, rfl⟩ : lo = lo' ∧ lcap = lcap' := by simpa using e
        obtain ⟨lb, loff, rfl, hlb, hlc⟩ := hli (by intro e; rw [e] at hn; simp at hn)
        refine (encode_bad lb loff lcap zs n hn hbad hgood (by omega) _ (hL.below hb4' hB) hB4 hlb hlc).mono ?_
        rintro e w5 ⟨ge, rfl, hge, _, _, hb5⟩
        have HEX : Hid (∃ z ∈ zs, U8.isPt z = false) := ⟨zs[n], List.getElem_mem hn, hbad⟩
        have HLI5 : Hid (IntsAt w5.heap.size w5 (.slice (some ⟨lb, loff, none⟩) zs.length lcap) zs) := HLI4.out.below hb5 _ hb5.size
        have hb5' : Below w.heap.size w w5 := hb4'.trans (hb5.mono hb4'.size)
        clear hbad hgood hli hlc hb5 hb4' HLI4
        go_wp2_with fail
        refine (containsF_any _ zs _ (by omega) _ HLI5.out HEX.out).mono ?_
        rintro e w6 ⟨rfl, rfl⟩
        go_wp2_with fail
        go_ret
        exact ⟨rfl, hb5'⟩

theorem covers_any (s u : ByteArray) (v : Value) (ao : Option Addr) (cap n : Nat) (zs : List Int) (hv : v = .slice ao n cap) (hzn : zs.length = n) (hs : s.size ≤ maxLen) (hu : u.size ≤ maxLen) (hn : n ≤ maxLen) (w : World) (hL : LE w) (hB : 1 < w.heap.size) (hl : IntsAt w.heap.size w v zs) :
    Calls Tryd.prog 4 #[.string s, .string u, v] w fun e w' => e = .returned (.bool true) ∧ Below w.heap.size w w' := by
  subst hzn hv
  by_cases h1 : s.size ≤ 300
  · by_cases h2 : u.size ≤ 300
    · by_cases h3 : zs.length ≤ 100
      · exact covers_short s u ao cap zs h1 h2 h3 w hL hB hl
      · exact covers_long3 s u ao _ cap hn h1 h2 (by omega) w
    · exact covers_long2 s u _ hu h1 (by omega) w
  · exact covers_long1 s u _ hs (by omega) w

end Go.Proofs.YtneemepjpeohbaaDoor
