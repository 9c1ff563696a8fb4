/- The contracts of set.Not and set.within. -/
import Derived.Test.YtefcjoomongcmaaGreatDoorSRg
import Derived.Laws.OwnMore
namespace Go.Proofs.YtefcjoomongcmaaGreatDoor
open Go.RowKit

theorem owns_below {w w' : World} {base B : Nat} {e : TypeId} {size : Nat} {v : Value} {n : Nat} {xs : List Value} (h : w.ownsRow base e size v n xs) (hlt : ∀ g, v.ownBlock = some g → g < B) (hb : Below B w w') : w'.ownsRow base e size v n xs := by
  obtain ⟨h1, h2 | ⟨g, cap, cur, rfl, hg, hh, rest⟩⟩ := h
  · exact ⟨h1, Or.inl h2⟩
  · exact ⟨h1, Or.inr ⟨g, cap, cur, rfl, hg, (hb.block g (hlt g rfl)).trans hh, rest⟩⟩

theorem owns_later {w w' : World} {base : Nat} {e : TypeId} {size : Nat} {v : Value} {n : Nat} {xs : List Value} (h : w.ownsRow base e size v n xs) (hb : Below w.heap.size w w') : w'.ownsRow base e size v n xs :=
  owns_below h (fun g hg => (h.lt g hg).2) hb

/-- A range was appended: what there is now. -/
theorem app53 {w W w1 : World} {v v' : Value} {s : List RS.Rg} {r : RS.Rg} {B : Nat} (hb : Below B w W) (hB : B ≤ W.heap.size) (hown : W.ownsRow B 42 2 v s.length (flat2 s))
    (hown' : w1.ownsRow B 42 2 v' (s.length + 1) (flat2 s ++ cells2 r)) (hg : W.grownBy w1 v.ownBlock) :
    w1.ownsRow B 42 2 v' (s ++ [r]).length (flat2 (s ++ [r])) ∧ Below B w w1 ∧ ∀ j k, j < W.heap.size → W.ownsRow B 42 2 v s.length (flat2 s) → v.ownBlock ≠ some j → w1.cell? ⟨j, k, none⟩ = W.cell? ⟨j, k, none⟩ := by
  refine ⟨?_, ?_, ?_⟩
  · rw [flat2_snoc]; simpa using hown'
  · exact hb.grown hg hB (fun k hk => (hown.lt k hk).1)
  · intro j k hj _ hne
    exact World.cell?_of_block (w := W) (w' := w1) (a := ⟨j, k, none⟩) (hg.block j hj (fun e => hne e.symm))

theorem cells2_one (r : RS.Rg) : ∀ u ∈ cells2 r, u.oneCell' = true := by
  intro u hu; simp [cells2] at hu; rcases hu with rfl | rfl <;> rfl

theorem cells2_at {w : World} {b : Nat} {r : RS.Rg} (h0 : w.cell? ⟨b, 0, none⟩ = some (.int .i64 r.1)) (h1 : w.cell? ⟨b, 1, none⟩ = some (.int .i64 r.2)) : ∀ j u, (cells2 r)[j]? = some u → w.cell? ((⟨b, 0, none⟩ : Addr).add j) = some u := by
  intro j u hj
  match j, hj with
  | 0, hj => simp [cells2] at hj; subst hj; simpa [Addr.add] using h0
  | 1, hj => simp [cells2] at hj; subst hj; simpa [Addr.add] using h1
  | j + 2, hj => simp [cells2] at hj

set_option maxHeartbeats 1000000 in
set_option maxRecDepth 100000 in
theorem not_some (b off cap : Nat) (s : List RS.Rg) (hlen : s.length ≤ 1000000) (w : World) (hb : b < w.heap.size) (hr : RS.right s = true)
    (hc : ∀ k (h : k < s.length), w.cell? ⟨b, off + k * 2, none⟩ = some (.int .i64 s[k].1) ∧ w.cell? ⟨b, off + k * 2 + 1, none⟩ = some (.int .i64 s[k].2)) :
    Calls Tryz.prog 17 #[.slice (some ⟨b, off, none⟩) s.length cap] w fun e w' => ∃ v, e = .returned v ∧ w'.ownsRow w.heap.size 42 2 v (RS.notL s).length (flat2 (RS.notL s)) ∧ Below w.heap.size w w' := by
  obtain ⟨i0, hi, hz0, hz1, hz2⟩ := info_parts info53
  have HC : Hid (∀ k (h : k < s.length), w.cell? ⟨b, off + k * 2, none⟩ = some (.int .i64 s[k].1) ∧ w.cell? ⟨b, off + k * 2 + 1, none⟩ = some (.int .i64 s[k].2)) := hc
  have HR : Hid (RS.rightFrom (-2) s = true) := hr
  clear hc hr
  go_enter Tryz.func17, Tryz.ntmps17
  go_wp2
  go_loopw [3, 4, 9] (fun v l i wr => ∃ (k : Nat) (next : Int) (out : List RS.Rg), k ≤ s.length ∧ i = .int .i64 k ∧ l = .int .i64 next ∧ 0 ≤ next ∧ next ≤ 1114112 ∧ out.length ≤ k ∧ out ++ RS.notFrom next (s.drop k) = RS.notL s ∧ RS.rightFrom (next - 2) (s.drop k) = true ∧ wr.ownsRow w.heap.size 42 2 v out.length (flat2 out) ∧ Below w.heap.size w wr) (fun _ _ i _ => s.length - (intOf i).toNat)
  case atStart => exact ⟨0, 0, [], Nat.zero_le _, rfl, rfl, by omega, by omega, Nat.le_refl _, rfl, HR.out, World.ownsRow_nil _ _ _ _, Below.refl _ _⟩
  case round =>
    obtain ⟨k, next, out, hk, rfl, rfl, hn1, hn2, hol, hout, hrr, hown, hnx⟩ := hrel
    have HO : Hid (out ++ RS.notFrom next (s.drop k) = RS.notL s) := hout
    clear hout
    by_cases hlt : k < s.length
    · obtain ⟨x0, x1⟩ := HC.out k hlt
      replace x0 := (hnx.cell (p := ⟨b, off + k * 2, none⟩) (by exact hb)).trans x0
      replace x1 := (hnx.cell (p := ⟨b, off + k * 2 + 1, none⟩) (by exact hb)).trans x1
      obtain ⟨r, hr⟩ : ∃ r, r = s[k] := ⟨_, rfl⟩
      rw [← hr] at x0 x1
      have hd : s.drop k = r :: s.drop (k + 1) := by rw [hr]; exact List.drop_eq_getElem_cons hlt
      clear hr
      rw [hd, RS.rightFrom_cons] at hrr
      obtain ⟨r1, r2, r3, r4⟩ := hrr
      have HRR : Hid (RS.rightFrom r.2 (s.drop (k + 1)) = true) := r4
      have HO2 : Hid (out ++ ((if next < r.1 then [(next, r.1 - 1)] else []) ++ RS.notFrom (r.2 + 1) (s.drop (k + 1))) = RS.notL s) := by
        show _ = _
        rw [← HO.out, hd]; rfl
      clear r4 hd HO
      obtain ⟨lo, hi'⟩ := r
      dsimp only at x0 x1 r1 r2 r3 HRR HO2
      have HB := hnx.alloc hnx.size (Obj.cells #[Value.int IntKind.i64 lo, Value.int IntKind.i64 hi'] 42)
      have hown1 := hown.alloc (Obj.cells #[Value.int IntKind.i64 lo, Value.int IntKind.i64 hi'] 42)
      by_cases hnl : next < lo
      · go_wp2_with (at_builtin; refine wpList_append_own _ rfl _ _ 24 rfl w.heap.size 42 i0 (.agg #[.int .i64 0, .int .i64 0]) 2 16 Tryz.underlying24 hi hz0 hz1 hz2 rfl (by decide) _ _ _ rfl (hown1.alloc _) ⟨wr.heap.size + 1, 0, none⟩ 1 1 (cells2 (next, lo - 1)) rfl rfl (cells2_at (by simp) (by simp)) (cells2_one _) ?_ ?_ ?_ ?_)
        rotate_right
        · intro v' w1 hown' hgrow _
          have R := app53 (r := (next, lo - 1)) (HB.alloc (by simp; have := hnx.size; omega) _) (by simp; have := hnx.size; omega) (hown1.alloc _) hown' hgrow
          have R1 := R.2.2 wr.heap.size 1 (by simp; omega) (hown1.alloc _) (fun e => by have := (hown.lt _ e).2; omega)
          simp at R1
          have R2 : Hid _ := R
          clear R hown' hgrow hown hown1
          go_wp2
          go_roundw
          case rel => exact ⟨k + 1, hi' + 1, out ++ [(next, lo - 1)], by omega, by go_num, rfl, by omega, by omega, by simp; omega, by have := HO2.out; rw [if_pos hnl] at this; rw [List.append_assoc]; exact this, RS.rightFrom_mono HRR.out (by omega), R2.out.1, R2.out.2.1⟩
          case measure => simp [intOf]; omega
        · unfold maxLen; omega
        · omega
        · have := hnx.size; simp; omega
      · go_wp2
        go_roundw
        case rel => exact ⟨k + 1, hi' + 1, out, by omega, by go_num, rfl, by omega, by omega, by omega, by have := HO2.out; rw [if_neg hnl] at this; exact this, RS.rightFrom_mono HRR.out (by omega), hown1, HB⟩
        case measure => simp [intOf]; omega
    · have HO2 : Hid (out ++ (if next ≤ 1114111 then [(next, 1114111)] else []) = RS.notL s) := by
        show _ = _
        rw [← HO.out, List.drop_of_length_le (by omega)]; rfl
      clear HO hrr
      by_cases hnl : next ≤ 1114111
      · go_wp2_with (at_builtin; refine wpList_append_own _ rfl _ _ 24 rfl w.heap.size 42 i0 (.agg #[.int .i64 0, .int .i64 0]) 2 16 Tryz.underlying24 hi hz0 hz1 hz2 rfl (by decide) _ _ _ rfl (hown.alloc _) ⟨wr.heap.size, 0, none⟩ 1 1 (cells2 (next, 1114111)) rfl rfl (cells2_at (by simp) (by simp)) (cells2_one _) ?_ ?_ ?_ ?_)
        rotate_right
        · intro v' w1 hown' hgrow _
          have R := app53 (r := (next, 1114111)) (hnx.alloc hnx.size _) (by simp; have := hnx.size; omega) (hown.alloc _) hown' hgrow
          have R2 : Hid _ := R
          clear R hown' hgrow hown
          go_wp2
          go_ret
          have := HO2.out
          rw [if_pos hnl] at this
          rw [← this]
          exact ⟨_, rfl, R2.out.1, R2.out.2.1⟩
        · unfold maxLen; omega
        · omega
        · have := hnx.size; simp; omega
      · go_wp2
        go_ret
        have := HO2.out
        rw [if_neg (by omega), List.append_nil] at this
        rw [← this]
        exact ⟨_, rfl, hown, hnx⟩

set_option maxHeartbeats 1000000 in
set_option maxRecDepth 100000 in
theorem not_nil (ao : Option Addr) (cap : Nat) (w : World) :
    Calls Tryz.prog 17 #[.slice ao 0 cap] w fun e w' => ∃ v, e = .returned v ∧ w'.ownsRow w.heap.size 42 2 v (RS.notL []).length (flat2 (RS.notL [])) ∧ Below w.heap.size w w' := by
  obtain ⟨i0, hi, hz0, hz1, hz2⟩ := info_parts info53
  go_enter Tryz.func17, Tryz.ntmps17
  go_wp2_with fail
  refine wp_loop_rounds 1 ?_
  rw [rounds_succ]
  go_wp2_with (at_builtin; refine wpList_append_own _ rfl _ _ 24 rfl w.heap.size 42 i0 (.agg #[.int .i64 0, .int .i64 0]) 2 16 Tryz.underlying24 hi hz0 hz1 hz2 rfl (by decide) _ _ _ rfl ((World.ownsRow_nil w _ _ _).alloc _) ⟨w.heap.size, 0, none⟩ 1 1 (cells2 (0, 1114111)) rfl rfl (cells2_at (by simp) (by simp)) (cells2_one _) (by decide) (by decide) (by simp) ?_)
  intro v' w1 hown' hgrow _
  have R := app53 (r := (0, 1114111)) (s := []) ((Below.refl _ w).alloc (Nat.le_refl _) _) (by simp) ((World.ownsRow_nil w _ _ _).alloc _) hown' hgrow
  have R2 : Hid _ := R
  clear R hown' hgrow
  go_wp2
  go_ret
  exact ⟨_, rfl, R2.out.1, R2.out.2.1⟩

theorem not_any (v : Value) (s : List RS.Rg) (hlen : s.length ≤ 1000000) (w : World) (hv : RgAt w.heap.size w v s) (hr : RS.right s = true) :
    Calls Tryz.prog 17 #[v] w fun e w' => ∃ v, e = .returned v ∧ w'.ownsRow w.heap.size 42 2 v (RS.notL s).length (flat2 (RS.notL s)) ∧ Below w.heap.size w w' := by
  obtain ⟨ao, cap, rfl, _, h⟩ := hv
  by_cases hz : s = []
  · subst hz
    exact not_nil ao cap w
  · obtain ⟨b, off, rfl, hb, hc⟩ := h hz
    exact not_some b off cap s hlen w hb hr hc

end Go.Proofs.YtefcjoomongcmaaGreatDoor
