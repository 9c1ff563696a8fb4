/- The contract of set.Print, at a set that is right. -/
import Derived.Test.YtjbdlihlcoldlaaGreatDoorG17
import Derived.Deep.CutRange
namespace Go.Proofs.YtjbdlihlcoldlaaGreatDoor
open Go.RowKit

theorem own_ne {w : World} {B bq : Nat} {v : Value} {n : Nat} {xs : List Value} {c : Array Value} (h : w.ownsRow B 5 1 v n xs) (hq : w.heap[bq]? = some (.cells c 46)) : v.ownBlock ≠ some bq := by
  obtain ⟨h1, h2 | ⟨g, cap, cur, rfl, hg, hh, rest⟩⟩ := h
  · obtain ⟨rfl, _⟩ := h2
    simp [Value.ownBlock]
  · intro e
    have : g = bq := by simpa [Value.ownBlock] using e
    subst this
    rw [hh] at hq
    simp at hq

theorem app5 {w1 : World} {B : Nat} {v' : Value} {xs : List Nat} {c : Nat} (h : w1.ownsRow B 5 1 v' (xs.length + 1) (xs.map byteV ++ [byteV c])) : w1.ownsRow B 5 1 v' (xs ++ [c]).length ((xs ++ [c]).map byteV) := by
  rw [List.map_append, List.length_append]
  exact h

theorem apps5 {w1 : World} {B : Nat} {v' : Value} {xs ys : List Nat} (h : w1.ownsRow B 5 1 v' (xs.length + ys.length) (xs.map byteV ++ ys.map byteV)) : w1.ownsRow B 5 1 v' (xs ++ ys).length ((xs ++ ys).map byteV) := by
  rw [List.map_append, List.length_append]
  exact h

theorem one_u8 (c : Nat) : ∀ u ∈ [byteV c], u.oneCell' = true := by intro u hu; simp at hu; subst hu; rfl

theorem byte_at {w : World} {b c : Nat} (h : w.cell? ⟨b, 0, none⟩ = some (byteV c)) : ∀ j u, [byteV c][j]? = some u → w.cell? ((⟨b, 0, none⟩ : Addr).add j) = some u := by
  intro j u hj
  match j, hj with
  | 0, hj => simp at hj; subst hj; simpa [Addr.add] using h
  | j + 1, hj => simp at hj

/-- Numbers below 256 as bytes. -/
def bytesOf (l : List Nat) : ByteArray := ⟨(l.map UInt8.ofNat).toArray⟩

def byteU (b : UInt8) : Value := .int .u8 (b.toNat : Int)

theorem byteV_U (l : List Nat) (h : ∀ b ∈ l, b < 256) : l.map byteV = (l.map UInt8.ofNat).map byteU := by
  rw [List.map_map]
  refine List.map_congr_left fun b hb => ?_
  unfold byteV byteU
  have := h b hb
  simp only [Function.comp, UInt8.toNat_ofNat']
  rw [Nat.mod_eq_of_lt (by omega)]

theorem conv_own {w : World} {B : Nat} {v : Value} {l : List UInt8} (h : w.ownsRow B 5 1 v l.length (l.map byteU)) :
    (convert 219 9 v).run Tryz.prog w = .ok (.string ⟨l.toArray⟩) w := by
  obtain ⟨h1, h2 | ⟨g, cap, cur, rfl, hg, hh, hn, hc, hs, ht⟩⟩ := h
  · obtain ⟨rfl, h0⟩ := h2
    obtain rfl : l = [] := List.length_eq_zero_iff.1 h0
    rw [run_convert_bytes_string w 219 9 5 none 0 0 Tryz.underlying219 Tryz.underlying5 Tryz.underlying9]
    rfl
  · refine run_convert_bytes_back (P := Tryz.prog) w 219 9 5 ⟨g, 0, none⟩ cap l Tryz.underlying219 Tryz.underlying5 Tryz.underlying9 fun j hj => ?_
    have := World.ownsRow.cells (w := w) (base := B) (e := 5) (size := 1) (v := .slice (some ⟨g, 0, none⟩) l.length cap) (n := l.length) (xs := l.map byteU) ⟨h1, Or.inr ⟨g, cap, cur, rfl, hg, hh, hn, hc, hs, ht⟩⟩ (g := g) rfl j (byteU l[j]) (by simp [hj])
    exact this

theorem conv_nat {w : World} {B : Nat} {v : Value} {l : List Nat} (hl : ∀ b ∈ l, b < 256) (h : w.ownsRow B 5 1 v l.length (l.map byteV)) :
    (convert 219 9 v).run Tryz.prog w = .ok (.string (bytesOf l)) w := by
  rw [byteV_U l hl] at h
  have e : l.length = (l.map UInt8.ofNat).length := by simp
  rw [e] at h
  exact conv_own h

theorem rgText_lt (r : RS.Rg) : ∀ b ∈ RS.rgText r, b < 128 := by
  intro b hb
  unfold RS.rgText at hb
  rcases List.mem_append.1 hb with hb | hb
  · exact RS.hexF_lt _ _ b hb
  · split at hb
    · simp at hb
    · rcases List.mem_cons.1 hb with hb | hb
      · omega
      · exact RS.hexF_lt _ _ b hb

theorem midText_lt (s : List RS.Rg) : ∀ k, ∀ b ∈ RS.midText k s, b < 128 := by
  induction s with
  | nil => intro k b hb; simp [RS.midText] at hb
  | cons r s ih =>
    intro k b hb
    rw [RS.midText] at hb
    rcases List.mem_append.1 hb with hb | hb
    · rcases List.mem_append.1 hb with hb | hb
      · split at hb
        · simp at hb; omega
        · simp at hb
      · exact rgText_lt r b hb
    · exact ih _ b hb

theorem setText_lt (s : List RS.Rg) : ∀ b ∈ RS.setText s, b < 256 := by
  intro b hb
  unfold RS.setText at hb
  rcases List.mem_append.1 hb with hb | hb
  · rcases List.mem_cons.1 hb with hb | hb
    · omega
    · have := midText_lt s 0 b hb; omega
  · simp at hb; omega

theorem text_step (s : List RS.Rg) (k : Nat) (h : k < s.length) : (91 :: RS.midText 0 (s.take k)) ++ (if 0 < k then [32] else []) ++ RS.rgText s[k] = 91 :: RS.midText 0 (s.take (k + 1)) := by
  rw [List.take_succ_eq_append_getElem h, RS.midText_append, List.length_take, Nat.min_eq_left (by omega), Nat.zero_add]
  simp [List.append_assoc]

set_option maxHeartbeats 2000000 in
set_option maxRecDepth 100000 in
theorem print_some (b off cap : Nat) (s : List RS.Rg) (hlen : s.length ≤ 10000) (hr : RS.right s = true) (w : World) (hTZ : TZ w) (hw8 : 7 < w.heap.size) (hb : b < w.heap.size)
    (hc : ∀ k (h : k < s.length), w.cell? ⟨b, off + k * 2, none⟩ = some (.int .i64 s[k].1) ∧ w.cell? ⟨b, off + k * 2 + 1, none⟩ = some (.int .i64 s[k].2)) :
    Calls Tryz.prog 67 #[.slice (some ⟨b, off, none⟩) s.length cap] w fun e w' => e = .returned (.string (bytesOf (RS.setText s))) ∧ Below w.heap.size w w' := by
  obtain ⟨i5, hi5, hz0, hz1, hz2⟩ := info_parts info5
  have HC : Hid (∀ k (h : k < s.length), w.cell? ⟨b, off + k * 2, none⟩ = some (.int .i64 s[k].1) ∧ w.cell? ⟨b, off + k * 2 + 1, none⟩ = some (.int .i64 s[k].2)) := hc
  have HR : Hid (RS.rightFrom (-2) s = true) := hr
  clear hc hr
  go_enter Tryz.func67, Tryz.ntmps67
  go_wp2
  go_loopw [3, 9] (fun v i wr => ∃ (k : Nat), k ≤ s.length ∧ i = .int .i64 k ∧ wr.ownsRow w.heap.size 5 1 v (91 :: RS.midText 0 (s.take k)).length ((91 :: RS.midText 0 (s.take k)).map byteV) ∧ Below w.heap.size w wr) (fun _ i _ => s.length - (intOf i).toNat)
  case atStart => exact ⟨0, Nat.zero_le _, rfl, World.ownsRow_lit w #[byteV 91] 1 (Nat.le_refl _) (by decide) rfl, (Below.refl _ w).alloc (Nat.le_refl _) _⟩
  case round =>
    obtain ⟨k, hk, rfl, hown, hnx⟩ := hrel
    have hml := RS.midText_length (s.take k) 0
    have htl : (s.take k).length ≤ k := List.length_take_le _ _
    by_cases hlt : k < s.length
    · obtain ⟨x0, x1⟩ := HC.out k hlt
      replace x0 := (hnx.cell (p := ⟨b, off + k * 2, none⟩) (by exact hb)).trans x0
      replace x1 := (hnx.cell (p := ⟨b, off + k * 2 + 1, none⟩) (by exact hb)).trans x1
      have hg := right_get HR.out k hlt
      have hts := text_step s k hlt
      obtain ⟨r, hr⟩ : ∃ r, r = s[k] := ⟨_, rfl⟩
      rw [← hr] at x0 x1 hg hts
      clear hr
      obtain ⟨lo, hi'⟩ := r
      dsimp only at x0 x1 hg
      obtain ⟨l, rfl⟩ := Int.eq_ofNat_of_zero_le (show 0 ≤ lo by omega)
      obtain ⟨h, rfl⟩ := Int.eq_ofNat_of_zero_le (show 0 ≤ hi' by omega)
      obtain ⟨T, hT⟩ : ∃ T, T = 91 :: RS.midText 0 (s.take k) := ⟨_, rfl⟩
      have hTl : T.length ≤ 41 * 10000 + 1 := by rw [hT, List.length_cons]; omega
      rw [← hT] at hown hts
      have HTS : Hid (T ++ (if 0 < k then [32] else []) ++ RS.rgText ((l : Int), (h : Int)) = 91 :: RS.midText 0 (s.take (k + 1))) := hts
      clear hT hts hml htl
      have HB := hnx.alloc hnx.size (Obj.cells #[Value.int IntKind.i64 l, Value.int IntKind.i64 h] 46)
      have hown1 := hown.alloc (Obj.cells #[Value.int IntKind.i64 l, Value.int IntKind.i64 h] 46)
      have hvar := heap_alloc_new wr (Obj.cells #[Value.int IntKind.i64 l, Value.int IntKind.i64 h] 46)
      have HVAR : Hid ((wr.alloc (Obj.cells #[Value.int IntKind.i64 l, Value.int IntKind.i64 h] 46)).heap[wr.heap.size]? = some (Obj.cells #[Value.int IntKind.i64 l, Value.int IntKind.i64 h] 46)) := hvar
      clear hvar
      go_upto_if 15 with (fail)
      go_cut [3, 9] from 9 to 35 (fun v i W => i = .int .i64 k ∧ W.ownsRow w.heap.size 5 1 v (T ++ (if 0 < k then [32] else [])).length ((T ++ (if 0 < k then [32] else [])).map byteV) ∧ W.heap[wr.heap.size]? = some (Obj.cells #[Value.int IntKind.i64 l, Value.int IntKind.i64 h] 46) ∧ Below w.heap.size w W)
      case first =>
        by_cases hk0 : 0 < k
        · go_wp2_with (at_builtin; refine wpList_append_own _ rfl _ _ 219 rfl w.heap.size 5 i5 (.int .u8 0) 1 1 Tryz.underlying219 hi5 hz0 hz1 hz2 rfl (by decide) _ _ _ rfl (hown1.alloc _) ⟨wr.heap.size + 1, 0, none⟩ 1 1 [byteV 32] rfl rfl (byte_at ?_) (one_u8 32) ?_ ?_ ?_ ?_)
          rotate_right
          · intro v' w1 hown' hgrow _
            have hbb := (HB.alloc (by simp; have := hnx.size; omega) _).grown hgrow (by simp; have := hnx.size; omega) (fun k hk => (hown1.lt k hk).1)
            have hv := (hgrow.block wr.heap.size (by simp; omega) (fun e => by have := own_ne hown1 HVAR.out; exact this e.symm)).trans ((heap_alloc_old _ _ (by simp)).trans HVAR.out)
            have R : Hid (w1.ownsRow w.heap.size 5 1 v' (T ++ [32]).length ((T ++ [32]).map byteV) ∧ w1.heap[wr.heap.size]? = some (Obj.cells #[Value.int IntKind.i64 l, Value.int IntKind.i64 h] 46) ∧ Below w.heap.size w w1) := ⟨app5 hown', hv, hbb⟩
            clear hown' hgrow hbb hv hown hown1 HVAR
            go_wp2
            go_meet
            rw [if_pos hk0]
            exact ⟨rfl, R.out⟩
          · simp [byteV]
          · unfold maxLen; omega
          · omega
          · have := hnx.size; simp; omega
        · go_wp2
          go_meet
          rw [if_neg (by omega), List.append_nil]
          exact ⟨rfl, hown1, HVAR.out, HB⟩
      case rest =>
        obtain ⟨rfl, hown2, hvar2, hnx2⟩ := hcut
        clear hown hown1 HB HVAR x0 x1
        obtain ⟨T2, hT2⟩ : ∃ T2, T2 = T ++ (if 0 < k then [32] else []) := ⟨_, rfl⟩
        have hT2l : T2.length ≤ 41 * 10000 + 2 := by rw [hT2]; split <;> simp <;> omega
        rw [← hT2] at hown2 HTS
        clear hT2
        have c0 : wc.cell? ⟨wr.heap.size, 0, none⟩ = some (.int .i64 l) := by simp [World.cell?, hvar2]
        have c1 : wc.cell? ⟨wr.heap.size, 1, none⟩ = some (.int .i64 h) := by simp [World.cell?, hvar2]
        have HV2 : Hid (wc.heap[wr.heap.size]? = some (Obj.cells #[Value.int IntKind.i64 l, Value.int IntKind.i64 h] 46)) := hvar2
        clear hvar2
        go_wp2_with fail
        refine (appendInt_any w.heap.size _ _ _ l (by omega) (by omega) _ (hTZ.below hnx2 hw8) (by have := hnx2.size; omega) hnx2.size hown2).mono ?_
        rintro e w3 ⟨v3, rfl, hown3, hg3⟩
        have hv3 := (hg3.block wr.heap.size (lt_of_block HV2.out) (fun e => own_ne hown2 HV2.out e.symm)).trans HV2.out
        have hb3 := hnx2.grown hg3 hnx2.size (fun k hk => (hown2.lt k hk).1)
        have d0 : w3.cell? ⟨wr.heap.size, 0, none⟩ = some (.int .i64 l) := by simp [World.cell?, hv3]
        have d1 : w3.cell? ⟨wr.heap.size, 1, none⟩ = some (.int .i64 h) := by simp [World.cell?, hv3]
        have HV3 : Hid (w3.heap[wr.heap.size]? = some (Obj.cells #[Value.int IntKind.i64 l, Value.int IntKind.i64 h] 46)) := hv3
        have HO3 : Hid (w3.ownsRow w.heap.size 5 1 v3 (T2 ++ RS.hex l).length ((T2 ++ RS.hex l).map byteV)) := apps5 hown3
        have hx3 := RS.hexF_length 16 l
        have hx3' : (T2 ++ RS.hex l).length ≤ 41 * 10000 + 20 := by rw [List.length_append]; show T2.length + (RS.hexF 16 l).length ≤ _; omega
        clear hown3 hg3 hv3 hown2 HV2 c0 c1 hx3
        obtain ⟨T3, hT3⟩ : ∃ T3, T3 = T2 ++ RS.hex l := ⟨_, rfl⟩
        rw [← hT3] at HO3 hx3'
        have HT3 : Hid (T3 = T2 ++ RS.hex l) := hT3
        clear hT3
        by_cases hhl : h = l
        · have hq : ((h : Int) != (l : Int)) = false := by simp [hhl]
          have HHL : Hid (h = l) := hhl
          clear hhl
          go_wp2
          go_roundw
          case rel =>
            refine ⟨k + 1, by omega, by go_num, ?_, hb3⟩
            have e : T3 = 91 :: RS.midText 0 (s.take (k + 1)) := by
              rw [← HTS.out, HT3.out]
              unfold RS.rgText
              rw [if_pos (by rw [HHL.out]), List.append_nil]
              rfl
            rw [← e]
            exact HO3.out
          case measure => simp [intOf]; omega
        · have hq : ((h : Int) != (l : Int)) = true := by simp; omega
          have HHL : Hid (¬ h = l) := hhl
          clear hhl
          have hown3 := HO3.out
          go_wp2_with (at_builtin; refine wpList_append_own _ rfl _ _ 219 rfl w.heap.size 5 i5 (.int .u8 0) 1 1 Tryz.underlying219 hi5 hz0 hz1 hz2 rfl (by decide) _ _ _ rfl (hown3.alloc _) ⟨w3.heap.size, 0, none⟩ 1 1 [byteV 45] rfl rfl (byte_at ?_) (one_u8 45) ?_ ?_ ?_ ?_)
          rotate_right
          · intro v4 w4 hown' hgrow _
            have hb4 := (hb3.alloc hb3.size _).grown hgrow (by simp; have := hb3.size; omega) (fun k hk => (hown3.lt k hk).1)
            have hv4 := (hgrow.block wr.heap.size (by simp; have := lt_of_block HV3.out; omega) (fun e => own_ne hown3 HV3.out e.symm)).trans ((heap_alloc_old _ _ (lt_of_block HV3.out)).trans HV3.out)
            have f1 : w4.cell? ⟨wr.heap.size, 1, none⟩ = some (.int .i64 h) := by simp [World.cell?, hv4]
            have hown4 := app5 (c := 45) hown'
            clear hown' hgrow hv4 hown3 HO3 d0 d1 HV3
            have hl4 : (T3 ++ [45]).length ≤ 41 * 10000 + 21 := by simp; omega
            go_wp2_with fail
            refine (appendInt_any w.heap.size _ _ _ h (by omega) (by omega) _ (hTZ.below hb4 hw8) (by have := hb4.size; omega) hb4.size hown4).mono ?_
            rintro e w5 ⟨v5, rfl, hown5, hg5⟩
            have hb5 := hb4.grown hg5 hb4.size (fun k hk => (hown4.lt k hk).1)
            have HO5 : Hid (w5.ownsRow w.heap.size 5 1 v5 (T3 ++ [45] ++ RS.hex h).length ((T3 ++ [45] ++ RS.hex h).map byteV)) := apps5 hown5
            clear hown5 hg5 hown4 f1
            go_wp2
            go_roundw
            case rel =>
              refine ⟨k + 1, by omega, by go_num, ?_, hb5⟩
              have e : T3 ++ [45] ++ RS.hex h = 91 :: RS.midText 0 (s.take (k + 1)) := by
                rw [← HTS.out, HT3.out]
                unfold RS.rgText
                rw [if_neg (by have := HHL.out; dsimp only; omega)]
                simp [List.append_assoc]
              rw [← e]
              exact HO5.out
            case measure => simp [intOf]; omega
          · simp [byteV]
          · unfold maxLen; omega
          · omega
          · have := hb3.size; simp; omega
    · have hk' : k = s.length := by omega
      subst hk'
      rw [List.take_length] at hown hml
      obtain ⟨T, hT⟩ : ∃ T, T = 91 :: RS.midText 0 s := ⟨_, rfl⟩
      have hTl : T.length ≤ 41 * 10000 + 1 := by rw [hT, List.length_cons]; omega
      rw [← hT] at hown
      have HT : Hid (T ++ [93] = RS.setText s) := by show _ = _; rw [hT]; rfl
      clear hT
      have hown1 := hown
      go_wp2_with (at_builtin; refine wpList_append_own _ rfl _ _ 219 rfl w.heap.size 5 i5 (.int .u8 0) 1 1 Tryz.underlying219 hi5 hz0 hz1 hz2 rfl (by decide) _ _ _ rfl (hown1.alloc _) ⟨wr.heap.size, 0, none⟩ 1 1 [byteV 93] rfl rfl (byte_at ?_) (one_u8 93) ?_ ?_ ?_ ?_)
      rotate_right
      · intro v4 w4 hown' hgrow _
        have hb4 := (hnx.alloc hnx.size _).grown hgrow (by simp; have := hnx.size; omega) (fun k hk => (hown1.lt k hk).1)
        have hown4 := app5 (c := 93) hown'
        rw [HT.out] at hown4
        have hcv := conv_nat (setText_lt s) hown4
        clear hown' hgrow hown4 hown1 hown
        go_wp2_with fail
        go_ret
        exact ⟨rfl, hb4⟩
      · simp [byteV]
      · unfold maxLen; omega
      · omega
      · have := hnx.size; simp; omega

set_option maxHeartbeats 1000000 in
set_option maxRecDepth 100000 in
theorem print_nil (ao : Option Addr) (cap : Nat) (w : World) :
    Calls Tryz.prog 67 #[.slice ao 0 cap] w fun e w' => e = .returned (.string (bytesOf (RS.setText []))) ∧ Below w.heap.size w w' := by
  obtain ⟨i5, hi5, hz0, hz1, hz2⟩ := info_parts info5
  have hown1 : (w.alloc (.cells #[byteV 91] 5)).ownsRow w.heap.size 5 1 (.slice (some ⟨w.heap.size, 0, none⟩) 1 1) [91].length ([91].map byteV) := World.ownsRow_lit w #[byteV 91] 1 (Nat.le_refl _) (by decide) rfl
  have hb0 : Below w.heap.size w (w.alloc (.cells #[byteV 91] 5)) := (Below.refl _ w).alloc (Nat.le_refl _) _
  have e91 : byteV 91 = .int .u8 91 := rfl
  rw [e91] at hown1 hb0
  go_enter Tryz.func67, Tryz.ntmps67
  go_wp2_with fail
  refine wp_loop_rounds 1 ?_
  rw [rounds_succ]
  go_wp2_with (at_builtin; refine wpList_append_own _ rfl _ _ 219 rfl w.heap.size 5 i5 (.int .u8 0) 1 1 Tryz.underlying219 hi5 hz0 hz1 hz2 rfl (by decide) _ _ _ rfl (hown1.alloc _) ⟨w.heap.size + 1, 0, none⟩ 1 1 [byteV 93] rfl rfl (byte_at ?_) (one_u8 93) ?_ ?_ ?_ ?_)
  rotate_right
  · intro v4 w4 hown' hgrow _
    have hb4 := (hb0.alloc hb0.size _).grown hgrow (by simp; omega) (fun k hk => (hown1.lt k hk).1)
    have hown4 : w4.ownsRow w.heap.size 5 1 v4 (RS.setText []).length ((RS.setText []).map byteV) := hown'
    have hcv := conv_nat (setText_lt []) hown4
    clear hown' hgrow hown4 hown1
    go_wp2_with fail
    go_ret
    exact ⟨rfl, hb4⟩
  · simp [byteV]
  · decide
  · decide
  · simp; omega

theorem print_any (v : Value) (s : List RS.Rg) (hlen : s.length ≤ 10000) (hr : RS.right s = true) (w : World) (hTZ : TZ w) (hw8 : 7 < w.heap.size) (hv : RgAt w.heap.size w v s) :
    Calls Tryz.prog 67 #[v] w fun e w' => e = .returned (.string (bytesOf (RS.setText s))) ∧ Below w.heap.size w w' := by
  obtain ⟨ao, cap, rfl, _, h⟩ := hv
  by_cases hz : s = []
  · subst hz
    exact print_nil ao cap w
  · obtain ⟨b, off, rfl, hb, hc⟩ := h hz
    exact print_some b off cap s hlen hr w hTZ hw8 hb hc

end Go.Proofs.YtjbdlihlcoldlaaGreatDoor
