/- The contract of set.within. -/
import Derived.Test.YtefcjoomongcmaaGreatDoorSNot
import Derived.OneCell
namespace Go.Proofs.YtefcjoomongcmaaGreatDoor
open Go.RowKit

theorem cell_new_rg (W : World) (a b : Int) : (W.alloc (Obj.cells #[Value.int IntKind.i64 a, Value.int IntKind.i64 b] 42)).cell? ⟨W.heap.size, 0, none⟩ = some (.int .i64 a) ∧ (W.alloc (Obj.cells #[Value.int IntKind.i64 a, Value.int IntKind.i64 b] 42)).cell? ⟨W.heap.size, 1, none⟩ = some (.int .i64 b) := by
  constructor <;> simp

set_option maxHeartbeats 1000000 in
set_option maxRecDepth 100000 in
theorem within_some (b off cap : Nat) (s : List RS.Rg) (hlen : s.length ≤ 1000000) (w : World) (hb : b < w.heap.size)
    (hc : ∀ k (h : k < s.length), w.cell? ⟨b, off + k * 2, none⟩ = some (.int .i64 s[k].1) ∧ w.cell? ⟨b, off + k * 2 + 1, none⟩ = some (.int .i64 s[k].2)) :
    Calls Tryz.prog 27 #[.slice (some ⟨b, off, none⟩) s.length cap] w fun e w' => ∃ v, e = .returned v ∧ w'.ownsRow w.heap.size 42 2 v (RS.within s).length (flat2 (RS.within s)) ∧ Below w.heap.size w w' := by
  obtain ⟨i0, hi, hz0, hz1, hz2⟩ := info_parts info53
  have HC : Hid (∀ k (h : k < s.length), w.cell? ⟨b, off + k * 2, none⟩ = some (.int .i64 s[k].1) ∧ w.cell? ⟨b, off + k * 2 + 1, none⟩ = some (.int .i64 s[k].2)) := hc
  clear hc
  go_enter Tryz.func27, Tryz.ntmps27
  go_wp2
  go_loopw [3, 8] (fun v i wr => ∃ (k : Nat) (out : List RS.Rg), k ≤ s.length ∧ i = .int .i64 k ∧ out.length ≤ k ∧ out ++ RS.within (s.drop k) = RS.within s ∧ wr.ownsRow w.heap.size 42 2 v out.length (flat2 out) ∧ Below w.heap.size w wr) (fun _ i _ => s.length - (intOf i).toNat)
  case atStart => exact ⟨0, [], Nat.zero_le _, rfl, Nat.le_refl _, rfl, World.ownsRow_nil _ _ _ _, Below.refl _ _⟩
  case round =>
    obtain ⟨k, out, hk, rfl, hol, hout, hown, hnx⟩ := hrel
    have HO : Hid (out ++ RS.within (s.drop k) = RS.within s) := hout
    clear hout
    by_cases hlt : k < s.length
    · obtain ⟨x0, x1⟩ := HC.out k hlt
      replace x0 := (hnx.cell (p := ⟨b, off + k * 2, none⟩) (by exact hb)).trans x0
      replace x1 := (hnx.cell (p := ⟨b, off + k * 2 + 1, none⟩) (by exact hb)).trans x1
      obtain ⟨r, hr⟩ : ∃ r, r = s[k] := ⟨_, rfl⟩
      rw [← hr] at x0 x1
      have hd : s.drop k = r :: s.drop (k + 1) := by rw [hr]; exact List.drop_eq_getElem_cons hlt
      clear hr
      have HO2 : Hid (out ++ ((if (RS.cut r).1 ≤ (RS.cut r).2 then [RS.cut r] else []) ++ RS.within (s.drop (k + 1))) = RS.within s) := by
        show _ = _
        rw [← HO.out, hd, RS.within_cons]
      clear hd HO
      obtain ⟨c, hcut⟩ : ∃ c, c = RS.cut r := ⟨_, rfl⟩
      rw [← hcut] at HO2
      have hbo : RS.both (r.1, r.2) (0, 1114111) = c := by rw [hcut]; rfl
      have HB := hnx.alloc hnx.size (Obj.cells #[Value.int IntKind.i64 r.1, Value.int IntKind.i64 r.2] 42)
      have hown1 := hown.alloc (Obj.cells #[Value.int IntKind.i64 r.1, Value.int IntKind.i64 r.2] 42)
      have hcon := fun W => both_any (r.1, r.2) (0, 1114111) W
      rw [hbo] at hcon
      dsimp only at hcon
      clear hbo hcut
      obtain ⟨lo, hi'⟩ := r
      obtain ⟨clo, chi⟩ := c
      dsimp only at x0 x1 HO2 HB hown1 hcon
      go_wp2_with fail
      refine (hcon _).mono ?_
      rintro e w2 ⟨rfl, hb2⟩
      have y0 := (hb2.cell (p := ⟨wr.heap.size, 0, none⟩) (by simp))
      have y1 := (hb2.cell (p := ⟨wr.heap.size, 1, none⟩) (by simp))
      have y2 := (hb2.frozen (p := ⟨wr.heap.size, 0, none⟩) (by simp))
      have y3 := (hb2.frozen (p := ⟨wr.heap.size, 1, none⟩) (by simp))
      have hown2 := owns_later hown1 hb2
      have hb3 := HB.trans (hb2.mono (by have := hnx.size; simp; omega))
      have hsz : wr.heap.size + 1 ≤ w2.heap.size := by have := hb2.size; simpa using this
      simp at y0 y1 y2 y3
      have hne : ∀ g, Value.ownBlock _ = some g → g ≠ wr.heap.size := fun g e => by have := (hown.lt _ e).2; omega
      have hown3 := ownsRow_setCell_other (ownsRow_setCell_other hown2 (a := ⟨wr.heap.size, 0, none⟩) (fun e => hne _ e rfl) (.int .i64 clo)) (a := ⟨wr.heap.size, 1, none⟩) (fun e => hne _ e rfl) (.int .i64 chi)
      have hb4 := (hb3.setCell (p := ⟨wr.heap.size, 0, none⟩) (by have := hnx.size; exact this) (.int .i64 clo)).setCell (p := ⟨wr.heap.size, 1, none⟩) (by have := hnx.size; exact this) (.int .i64 chi)
      have hsw : w.heap.size ≤ w2.heap.size := hb3.size
      clear hb2 HB hown1 hcon x0 x1 hown2 hb3
      by_cases hcl : clo ≤ chi
      · go_wp2_with (at_builtin; refine wpList_append_own _ rfl _ _ 22 rfl w.heap.size 42 i0 (.agg #[.int .i64 0, .int .i64 0]) 2 16 Tryz.underlying22 hi hz0 hz1 hz2 rfl (by decide) _ _ _ rfl (hown3.alloc _) ⟨w2.heap.size, 0, none⟩ 1 1 (cells2 (clo, chi)) rfl rfl (cells2_at ?_ ?_) (cells2_one _) ?_ ?_ ?_ ?_)
        rotate_right
        · intro v' w1 hown' hgrow _
          have R := app53 (r := (clo, chi)) (hb4.alloc (by simpa using hsw) _) (by simp; omega) (hown3.alloc _) hown' hgrow
          have R2 : Hid _ := R
          clear R hown' hgrow hown hown3
          go_wp2
          go_roundw
          case rel => exact ⟨k + 1, out ++ [(clo, chi)], by omega, by go_num, by simp; omega, by have := HO2.out; rw [if_pos hcl] at this; rw [List.append_assoc]; exact this, R2.out.1, R2.out.2.1⟩
          case measure => simp [intOf]; omega
        · unfold maxLen; omega
        · omega
        · simp; omega
      · go_wp2
        go_roundw
        case rel => exact ⟨k + 1, out, by omega, by go_num, by omega, by have := HO2.out; rw [if_neg (by omega)] at this; exact this, hown3, hb4⟩
        case measure => simp [intOf]; omega
    · go_wp2
      go_ret
      have := HO.out
      rw [List.drop_of_length_le (by omega)] at this
      have e : out = RS.within s := by rw [← this]; simp [RS.within]
      rw [← e]
      exact ⟨_, rfl, hown, hnx⟩

set_option maxHeartbeats 1000000 in
set_option maxRecDepth 100000 in
theorem within_nil (ao : Option Addr) (cap : Nat) (w : World) :
    Calls Tryz.prog 27 #[.slice ao 0 cap] w fun e w' => e = .returned (.slice none 0 0) ∧ w' = w := by
  go_enter Tryz.func27, Tryz.ntmps27
  go_wp2_with fail
  refine wp_loop_rounds 1 ?_
  rw [rounds_succ]
  go_wp2_with fail
  go_ret
  exact ⟨rfl, rfl⟩

theorem within_any (v : Value) (s : List RS.Rg) (hlen : s.length ≤ 1000000) (w : World) (hv : RgAt w.heap.size w v s) :
    Calls Tryz.prog 27 #[v] w fun e w' => ∃ v, e = .returned v ∧ w'.ownsRow w.heap.size 42 2 v (RS.within s).length (flat2 (RS.within s)) ∧ Below w.heap.size w w' := by
  obtain ⟨ao, cap, rfl, _, h⟩ := hv
  by_cases hz : s = []
  · subst hz
    refine (within_nil ao cap w).mono ?_
    rintro e w' ⟨rfl, rfl⟩
    exact ⟨_, rfl, World.ownsRow_nil _ _ _ _, Below.refl _ _⟩
  · obtain ⟨b, off, rfl, hb, hc⟩ := h hz
    exact within_some b off cap s hlen w hb hc

end Go.Proofs.YtefcjoomongcmaaGreatDoor
