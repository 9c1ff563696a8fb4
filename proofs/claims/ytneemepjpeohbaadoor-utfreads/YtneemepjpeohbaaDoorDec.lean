/- The contract of utf.Decode: the units of the bytes, in new memory. -/
import Derived.Test.YtneemepjpeohbaaDoorFirst
namespace Go.Proofs.YtneemepjpeohbaaDoor
open Go.RowKit

theorem info26 : (Tryd.prog.info? 26).map (fun i => (i.zero, i.size, i.bytes)) = some (some (.agg #[.int .i64 0, .int .i64 0, .int .i64 0]), 3, 24) := by kernel_rfl

/-- A unit's three cells. -/
def cells3 (u : Nat × Nat × Nat) : List Value := [.int .i64 u.1, .int .i64 u.2.1, .int .i64 u.2.2]
theorem told_none : told none = .tuple #[.int .i64 0, .int .i64 0, .bool false] := rfl
theorem told_some (p n : Nat) : told (some (p, n)) = .tuple #[.int .i64 p, .int .i64 n, .bool true] := rfl
theorem extract_list (s : ByteArray) (k : Nat) : (s.extract k s.size).data.toList = s.data.toList.drop k := by
  rw [ByteArray.data_extract, Array.toList_extract, List.extract_eq_take_drop]
  rw [List.take_of_length_le (by simp)]
def flat (us : List (Nat × Nat × Nat)) : List Value := us.flatMap cells3

theorem flat_snoc (us : List (Nat × Nat × Nat)) (u : Nat × Nat × Nat) : flat (us ++ [u]) = flat us ++ cells3 u := by
  simp [flat]

theorem dec_mem {w wr w1 : World} {v v' : Value} {us : List (Nat × Nat × Nat)} {u : Nat × Nat × Nat} {B : Nat} {c : Array Value} {o : Obj}
    (hb : Below B w wr) (hB : B ≤ wr.heap.size) (hown : wr.ownsRow B 26 3 v us.length (flat us)) (hc : c[2]? = some (.int .i64 u.2.2))
    (hown' : w1.ownsRow B 26 3 v' (us.length + 1) (flat us ++ cells3 u)) (hg : ((wr.alloc (.cells c 26)).alloc o).grownBy w1 v.ownBlock) :
    w1.cell? ⟨wr.heap.size, 2, none⟩ = some (.int .i64 u.2.2) ∧ w1.ownsRow B 26 3 v' (us ++ [u]).length (flat (us ++ [u])) ∧ Below B w w1 := by
  refine ⟨?_, ?_, ?_⟩
  · have h1 : w1.heap[wr.heap.size]? = ((wr.alloc (.cells c 26)).alloc o).heap[wr.heap.size]? :=
      hg.block _ (by simp; omega) (fun e => by have := hown.lt _ e.symm; omega)
    have h2 := World.cell?_of_block (w := (wr.alloc (.cells c 26)).alloc o) (w' := w1) (a := ⟨wr.heap.size, 2, none⟩) h1
    rw [h2]
    simp [World.cell?_alloc_past, hc]
  · rw [flat_snoc]; simpa using hown'
  · exact ((hb.alloc hB _).alloc (by simp; omega) _).grown hg (by simp; omega) (fun k hk => (hown.lt k hk).1)

theorem dec_next {s : List UInt8} {us : List (Nat × Nat × Nat)} {k p n : Nat} (hk : k < s.length) (h : us ++ U8.dec (s.drop k) k = U8.dec s 0) (hu : U8.unit (s.drop k) = (p, n)) :
    us ++ [(p, k, n)] ++ U8.dec (s.drop (k + n)) (k + n) = U8.dec s 0 := by
  rw [← h, U8.dec_step (l := s.drop k) (by intro e; have := congrArg List.length e; simp at this; omega), hu, List.drop_drop, List.append_assoc]
  rfl

set_option maxHeartbeats 1000000 in
set_option maxRecDepth 100000 in
theorem decode_any (s : ByteArray) (hs : s.size ≤ 1000000) (w : World) (hL : LE w) (hB : 1 < w.heap.size) :
    Calls Tryd.prog 6 #[.string s] w fun e w' => ∃ v, e = .returned v ∧ w'.ownsRow w.heap.size 26 3 v (U8.dec s.data.toList 0).length (flat (U8.dec s.data.toList 0)) ∧ Below w.heap.size w w' := by
  obtain ⟨i0, hi, hz0, hz1, hz2⟩ := info_parts info26
  go_enter Tryd.func6, Tryd.ntmps6
  go_wp2
  go_loopw [3, 4] (fun v i wr => ∃ k us, k ≤ s.size ∧ i = .int .i64 (k : Nat) ∧ wr.ownsRow w.heap.size 26 3 v (List.length us) (flat us) ∧ us ++ U8.dec (s.data.toList.drop k) k = U8.dec s.data.toList 0 ∧ Below w.heap.size w wr)
    (fun _ i _ => s.size - (intOf i).toNat)
  case atStart => exact ⟨0, [], Nat.zero_le _, rfl, World.ownsRow_nil _ _ _ _, rfl, Below.refl _ _⟩
  case round =>
    obtain ⟨k, us, hk, rfl, hown, hus, hnx⟩ := hrel
    have HU : Hid (us ++ U8.dec (s.data.toList.drop k) k = U8.dec s.data.toList 0) := hus
    clear hus
    have hlen : us.length ≤ s.size := by
      have h1 := U8.dec_length_le s.data.toList 0
      rw [← HU.out] at h1
      simp at h1
      omega
    by_cases hlt : k < s.size
    · have hLr : LE wr := hL.below hnx hB
      cases hf : U8.first (s.data.toList.drop k) with
      | none =>
        have HF : Hid (U8.first (s.data.toList.drop k) = none) := hf
        clear hf
        go_wp2_with fail
        refine (first_any (s.extract k s.size) (by simp; omega) (by simp; omega) _ (hL.below (hnx.alloc hnx.size _) hB)).mono ?_
        rintro e w' ⟨rfl, rfl⟩
        rw [extract_list, HF.out, told_none]
        go_wp2_with (at_builtin; refine wpList_append_own _ rfl _ _ 23 rfl w.heap.size 26 i0 (.agg #[.int .i64 0, .int .i64 0, .int .i64 0]) 3 24 Tryd.underlying23 hi hz0 hz1 hz2 rfl (by decide) _ _ _ rfl ((hown.alloc _).alloc _) ⟨wr.heap.size + 1, 0, none⟩ 1 1 (cells3 (65533, k, 1)) rfl rfl ?_ ?_ ?_ ?_ ?_ ?_)
        rotate_right
        · intro v' w1 hown' hgrow _
          have R := dec_mem (u := (65533, k, 1)) hnx hnx.size hown rfl hown' hgrow
          have R1 := R.1
          have R2 : Hid _ := R.2
          clear R hown' hgrow hown
          go_wp2
          go_roundw
          case rel => exact ⟨k + 1, us ++ [(65533, k, 1)], by omega, by go_num, R2.out.1, dec_next (by simpa using hlt) HU.out (by rw [U8.unit, HF.out]; rfl), R2.out.2⟩
          case measure => simp [intOf]; omega
        · intro j u hj
          match j, hj with
          | 0, hj => simp [cells3] at hj; subst hj; simp [Addr.add]
          | 1, hj => simp [cells3] at hj; subst hj; simp [Addr.add]
          | 2, hj => simp [cells3] at hj; subst hj; simp [Addr.add]
          | j + 3, hj => simp [cells3] at hj
        · intro u hu; simp [cells3] at hu; rcases hu with rfl | rfl | rfl <;> rfl
        · have := hlen; unfold maxLen; omega
        · have := hlen; omega
        · have := hnx.size; simp; omega
      | some x =>
        obtain ⟨p, n⟩ := x
        have hfl := U8.first_len hf
        have hsz : s.data.toList.length = s.size := by simp
        rw [List.length_drop, hsz] at hfl
        clear hsz
        have HF : Hid (U8.first (s.data.toList.drop k) = some (p, n)) := hf
        clear hf
        go_wp2_with fail
        refine (first_any (s.extract k s.size) (by simp; omega) (by simp; omega) _ (hL.below (hnx.alloc hnx.size _) hB)).mono ?_
        rintro e w' ⟨rfl, rfl⟩
        rw [extract_list, HF.out, told_some]
        go_wp2_with (at_builtin; refine wpList_append_own _ rfl _ _ 23 rfl w.heap.size 26 i0 (.agg #[.int .i64 0, .int .i64 0, .int .i64 0]) 3 24 Tryd.underlying23 hi hz0 hz1 hz2 rfl (by decide) _ _ _ rfl ((hown.alloc _).alloc _) ⟨wr.heap.size + 1, 0, none⟩ 1 1 (cells3 (p, k, n)) rfl rfl ?_ ?_ ?_ ?_ ?_ ?_)
        rotate_right
        · intro v' w1 hown' hgrow _
          have R := dec_mem (u := (p, k, n)) hnx hnx.size hown rfl hown' hgrow
          have R1 := R.1
          have R2 : Hid _ := R.2
          clear R hown' hgrow hown
          go_wp2
          go_roundw
          case rel => exact ⟨k + n, us ++ [(p, k, n)], by omega, by go_num, R2.out.1, dec_next (by simpa using hlt) HU.out (by rw [U8.unit, HF.out]; rfl), R2.out.2⟩
          case measure => simp [intOf]; omega
        · intro j u hj
          match j, hj with
          | 0, hj => simp [cells3] at hj; subst hj; simp [Addr.add]
          | 1, hj => simp [cells3] at hj; subst hj; simp [Addr.add]
          | 2, hj => simp [cells3] at hj; subst hj; simp [Addr.add]
          | j + 3, hj => simp [cells3] at hj
        · intro u hu; simp [cells3] at hu; rcases hu with rfl | rfl | rfl <;> rfl
        · have := hlen; unfold maxLen; omega
        · have := hlen; omega
        · have := hnx.size; simp; omega
    · go_wp2
      go_ret
      refine ⟨_, rfl, ?_, hnx⟩
      have hk' : k = s.size := by omega
      have h1 : us = U8.dec s.data.toList 0 := by
        rw [← HU.out, List.drop_of_length_le (by simp; omega), U8.dec_nil, List.append_nil]
      rw [← h1]
      exact hown
end Go.Proofs.YtneemepjpeohbaaDoor
