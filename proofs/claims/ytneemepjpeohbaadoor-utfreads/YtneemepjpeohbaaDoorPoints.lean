/- The contract of caesurakeep.points: the code points of bytes, in new memory; and those of slices.Equal, Index and Contains at integers. -/
import Derived.Test.YtneemepjpeohbaaDoorEncode
namespace Go.Proofs.YtneemepjpeohbaaDoor
open Go.RowKit

theorem info3 : (Tryd.prog.info? 3).map (fun i => (i.zero, i.size, i.bytes)) = some (some (.int .i64 0), 1, 8) := by kernel_rfl

theorem owns_mono {w : World} {B B' : Nat} {e : TypeId} {size : Nat} {v : Value} {n : Nat} {xs : List Value} (h : w.ownsRow B e size v n xs) (hB : B' ≤ B) : w.ownsRow B' e size v n xs := by
  obtain ⟨h1, h2 | ⟨g, cap, cur, rfl, hg, rest⟩⟩ := h
  · exact ⟨h1, Or.inl h2⟩
  · exact ⟨h1, Or.inr ⟨g, cap, cur, rfl, Nat.le_trans hB hg, rest⟩⟩

/-- Points, as values. -/
def ptV (p : Nat) : Value := .int .i64 (p : Int)

/-- The three cells of a unit in a row of units. -/
theorem unit_cells {w : World} {B g cap : Nat} {us : List (Nat × Nat × Nat)} (hd : w.ownsRow B 26 3 (.slice (some ⟨g, 0, none⟩) us.length cap) us.length (flat us)) (k : Nat) (h : k < us.length) :
    w.cell? ⟨g, k * 3, none⟩ = some (.int .i64 (us[k].1 : Nat)) ∧ w.cell? ⟨g, k * 3 + 1, none⟩ = some (.int .i64 (us[k].2.1 : Nat)) ∧ w.cell? ⟨g, k * 3 + 2, none⟩ = some (.int .i64 (us[k].2.2 : Nat)) := by
  have key : ∀ (us : List (Nat × Nat × Nat)) (k : Nat) (h : k < us.length), (flat us)[k * 3]? = some (.int .i64 (us[k].1 : Nat)) ∧ (flat us)[k * 3 + 1]? = some (.int .i64 (us[k].2.1 : Nat)) ∧ (flat us)[k * 3 + 2]? = some (.int .i64 (us[k].2.2 : Nat)) := by
    intro us
    induction us with
    | nil => intro k h; simp at h
    | cons u us ih =>
      intro k h
      have e : flat (u :: us) = cells3 u ++ flat us := rfl
      cases k with
      | zero => rw [e]; exact ⟨rfl, rfl, rfl⟩
      | succ k =>
        have := ih k (by simpa using h)
        have hl : (cells3 u).length = 3 := rfl
        rw [e, List.getElem?_append_right (by omega), List.getElem?_append_right (by omega), List.getElem?_append_right (by omega), hl, show (k + 1) * 3 - 3 = k * 3 by omega, show (k + 1) * 3 + 1 - 3 = k * 3 + 1 by omega, show (k + 1) * 3 + 2 - 3 = k * 3 + 2 by omega]
        exact this
  have c := hd.cells (g := g) rfl
  obtain ⟨k1, k2, k3⟩ := key us k h
  have c1 := c _ _ k1
  have c2 := c _ _ k2
  have c3 := c _ _ k3
  simp only [Addr.add_lit, Nat.zero_add] at c1 c2 c3
  exact ⟨c1, c2, c3⟩

theorem one_i64 (c : Int) : ∀ u ∈ [Value.int .i64 c], u.oneCell' = true := by intro u hu; simp at hu; subst hu; rfl

set_option maxHeartbeats 1000000 in
set_option maxRecDepth 100000 in
theorem points_any (s : ByteArray) (hs : s.size ≤ 10000) (w : World) (hL : LE w) (hB : 1 < w.heap.size) :
    Calls Tryd.prog 15 #[.string s] w fun e w' => ∃ v, e = .returned v ∧ w'.ownsRow w.heap.size 3 1 v (U8.pts s.data.toList).length ((U8.pts s.data.toList).map ptV) ∧ Below w.heap.size w w' := by
  obtain ⟨i0, hi, hz0, hz1, hz2⟩ := info_parts info3
  go_enter Tryd.func15, Tryd.ntmps15
  go_wp2_with fail
  refine (decode_any s (by omega) _ hL hB).mono ?_
  rintro e w1 ⟨vd, rfl, hd, hb1⟩
  have hlen := U8.dec_length_le s.data.toList 0
  have hsz : s.data.toList.length = s.size := by simp
  rw [hsz] at hlen
  clear hsz
  obtain ⟨us, hus⟩ : ∃ us, us = U8.dec s.data.toList 0 := ⟨_, rfl⟩
  have HUS : Hid (U8.pts s.data.toList = us.map (·.1)) := by show _ = _; rw [hus]; rfl
  rw [← hus] at hd hlen
  clear hus
  have hdk := hd
  obtain ⟨hl, h2 | ⟨g, cap, cur, rfl, hg, hh, hn, hc, hcs, ht⟩⟩ := hd
  · obtain ⟨rfl, h0⟩ := h2
    obtain rfl : us = [] := List.length_eq_zero_iff.1 h0
    clear h0 hl hdk
    go_wp2_with fail
    refine wp_loop_rounds 1 ?_
    rw [rounds_succ]
    go_wp2_with fail
    go_ret
    exact ⟨_, rfl, by rw [HUS.out]; exact World.ownsRow_nil _ _ _ _, hb1⟩
  · have hgl : g < w1.heap.size := lt_of_block hh
    have HD : Hid _ := hdk
    clear hl hg hh hn hc hcs ht hdk
    go_wp2_with fail
    go_loopw [3, 5] (fun v i wr => ∃ k : Nat, k ≤ us.length ∧ i = .int .i64 k ∧ wr.ownsRow w1.heap.size 3 1 v ((us.take k).map (·.1)).length (((us.take k).map (·.1)).map ptV) ∧ Below w1.heap.size w1 wr)
      (fun _ i _ => us.length - (intOf i).toNat)
    case atStart => exact ⟨0, Nat.zero_le _, rfl, World.ownsRow_nil _ _ _ _, Below.refl _ _⟩
    case round =>
      obtain ⟨k, hk, rfl, hown, hnx⟩ := hrel
      by_cases hlt : k < us.length
      · obtain ⟨p, hp⟩ : ∃ p, p = us[k].1 := ⟨_, rfl⟩
        have hcx : wr.cell? ⟨g, k * 3, none⟩ = some (.int .i64 p) := by rw [hp]; exact (hnx.cell (by exact hgl)).trans (unit_cells HD.out k hlt).1
        have HP : Hid (p = us[k].1) := hp
        clear hp
        have htl : ((us.take k).map (·.1)).length ≤ k := by rw [List.length_map]; exact List.length_take_le _ _
        have B1 : Hid (((us.take k).map (·.1)).length + 1 ≤ maxLen) := by show _ ≤ _; unfold maxLen; omega
        have B2 : Hid ((((us.take k).map (·.1)).length + 1) * 8 ≤ 140737488355328) := by show _ ≤ _; omega
        have HB : Hid (w1.heap.size ≤ wr.heap.size + 1) := by have := hnx.size; show _ ≤ _; omega
        go_wp2_with (at_builtin; refine wpList_append_own _ rfl _ _ 22 rfl w1.heap.size 3 i0 (.int .i64 0) 1 8 Tryd.underlying22 hi hz0 hz1 hz2 rfl (by decide) _ _ _ rfl (hown.alloc _) ⟨wr.heap.size, 0, none⟩ 1 1 [.int .i64 p] rfl rfl (cell_one_new _ _ _) (one_i64 _) B1.out B2.out (by simpa using HB.out) ?_; intro v' w2 hown' hgrow _)
        have hb2 : Below w1.heap.size w1 w2 := (hnx.alloc hnx.size _).grown hgrow (by simpa using HB.out) (fun k hk => (hown.lt k hk).1)
        have R : Hid (w2.ownsRow w1.heap.size 3 1 v' ((us.take (k + 1)).map (·.1)).length (((us.take (k + 1)).map (·.1)).map ptV)) := by
          show World.ownsRow _ _ _ _ _ _ _
          rw [List.take_succ_eq_append_getElem hlt, List.map_append, List.map_append, List.length_append, List.map_singleton, List.map_singleton, ← HP.out]
          exact hown'
        clear hown' hgrow hown
        go_wp2
        go_roundw
        case rel => exact ⟨k + 1, by omega, by go_num, R.out, hb2⟩
        case measure => simp [intOf]; omega
      · go_wp2
        go_ret
        refine ⟨_, rfl, ?_, hb1.trans (hnx.mono hb1.size)⟩
        have hkl : k = us.length := by omega
        subst hkl
        rw [List.take_length] at hown
        rw [HUS.out]
        exact owns_mono hown hb1.size

set_option maxHeartbeats 1000000 in
set_option maxRecDepth 100000 in
theorem index_any (b off cap : Nat) (zs : List Int) (x : Int) (hlen : zs.length ≤ 1000000) (w : World) (hc : ∀ j (h : j < zs.length), w.cell? ⟨b, off + j, none⟩ = some (.int .i64 zs[j])) :
    Calls Tryd.prog 24 #[.slice (some ⟨b, off, none⟩) zs.length cap, .int .i64 x] w fun e w' => ∃ r : Int, e = .returned (.int .i64 r) ∧ (0 ≤ r ↔ x ∈ zs) ∧ w' = w := by
  have HC : Hid (∀ j (h : j < zs.length), w.cell? ⟨b, off + j, none⟩ = some (.int .i64 zs[j])) := hc
  clear hc
  go_enter Tryd.func24, Tryd.ntmps24
  go_wp2
  go_loop [8] (fun i => ∃ k : Nat, k ≤ zs.length ∧ i = .int .i64 k ∧ x ∉ zs.take k) (fun i => zs.length - (intOf i).toNat)
  case atStart => exact ⟨0, Nat.zero_le _, rfl, by simp⟩
  case round =>
    obtain ⟨k, hk, rfl, hno⟩ := hrel
    have HNO : Hid (x ∉ zs.take k) := hno
    clear hno
    by_cases hlt : k < zs.length
    · have hcx := HC.out k hlt
      obtain ⟨y, hy⟩ : ∃ y, y = zs[k] := ⟨_, rfl⟩
      rw [← hy] at hcx
      have HY : Hid (y = zs[k]) := hy
      clear hy
      by_cases hxy : x = y
      · have hq : (x == y) = true := by simp [hxy]
        have HXY : Hid (x = y) := hxy
        clear hxy
        go_wp2
        go_ret
        refine ⟨_, rfl, ⟨fun _ => ?_, fun _ => by omega⟩, rfl⟩
        rw [HXY.out, HY.out]; exact List.getElem_mem hlt
      · have hq : (x == y) = false := by simp [hxy]
        go_wp2
        go_round
        case rel => exact ⟨k + 1, by omega, by go_num, by rw [List.take_succ_eq_append_getElem hlt]; simp only [List.mem_append, List.mem_singleton, not_or]; exact ⟨HNO.out, by rw [← HY.out]; exact hxy⟩⟩
        case measure => simp [intOf]; omega
    · go_wp2
      go_ret
      refine ⟨_, rfl, ⟨fun h => by omega, fun h => ?_⟩, rfl⟩
      have hkl : k = zs.length := by omega
      have := HNO.out
      rw [hkl, List.take_length] at this
      exact absurd h this

set_option maxHeartbeats 1000000 in
set_option maxRecDepth 100000 in
theorem index_nil (ao : Option Addr) (cap : Nat) (x : Int) (w : World) :
    Calls Tryd.prog 24 #[.slice ao 0 cap, .int .i64 x] w fun e w' => e = .returned (.int .i64 (-1)) ∧ w' = w := by
  go_enter Tryd.func24, Tryd.ntmps24
  go_wp2_with fail
  refine wp_loop_rounds 1 ?_
  rw [rounds_succ]
  go_wp2_with fail
  go_ret
  exact ⟨rfl, rfl⟩

end Go.Proofs.YtneemepjpeohbaaDoor
