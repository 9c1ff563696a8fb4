/- The contract of set.Of. -/
import Derived.Test.YtefcjoomongcmaaGreatDoorSNone
import Derived.BigRegion
import Derived.Test.YtefcjoomongcmaaGreatDoorSBase
namespace Go.Proofs.YtefcjoomongcmaaGreatDoor
open Go.RowKit

/-- What the merging has come to. -/
def MergeAt (d : List RS.Rg) (k : Nat) (acc : List RS.Rg) (v : Value) : Prop :=
  (k = 0 ∧ acc = [] ∧ v = .slice none 0 0) ∨ ∃ pre c, acc = pre ++ [c] ∧ pre ++ RS.mergeFrom c (d.drop k) = RS.mergeL d ∧ RS.good c

theorem merge_join {d pre : List RS.Rg} {k : Nat} {cl ch lo hi : Int} (h : lo ≤ ch + 1) (hd : d.drop k = (lo, hi) :: d.drop (k + 1)) (hp : pre ++ RS.mergeFrom (cl, ch) (d.drop k) = RS.mergeL d) : pre ++ RS.mergeFrom (cl, max ch hi) (d.drop (k + 1)) = RS.mergeL d := by
  rw [← hp, hd, RS.mergeFrom, if_pos h]

theorem merge_part {d pre : List RS.Rg} {k : Nat} {cl ch lo hi : Int} (h : ¬ lo ≤ ch + 1) (hd : d.drop k = (lo, hi) :: d.drop (k + 1)) (hp : pre ++ RS.mergeFrom (cl, ch) (d.drop k) = RS.mergeL d) : (pre ++ [(cl, ch)]) ++ RS.mergeFrom (lo, hi) (d.drop (k + 1)) = RS.mergeL d := by
  rw [← hp, hd, RS.mergeFrom, if_neg h, List.append_assoc]
  rfl

theorem merge_end {d acc : List RS.Rg} {k : Nat} {v : Value} (h : MergeAt d k acc v) (hk : d.length ≤ k) : acc = RS.mergeL d := by
  rcases h with ⟨rfl, rfl, _⟩ | ⟨pre, c, rfl, hp, _⟩
  · obtain rfl : d = [] := List.length_eq_zero_iff.1 (by omega)
    rfl
  · rw [← hp, List.drop_of_length_le hk]
    rfl

theorem merge_first {d : List RS.Rg} {k : Nat} {r : RS.Rg} (hk : k = 0) (hd : d.drop k = r :: d.drop (k + 1)) : [] ++ RS.mergeFrom r (d.drop (k + 1)) = RS.mergeL d := by
  subst hk
  rw [List.drop_zero] at hd
  rw [List.nil_append]
  conv => rhs; rw [hd]
  rfl

set_option maxHeartbeats 1000000 in
set_option maxRecDepth 100000 in
theorem of_any (v : Value) (l : List RS.Rg) (hlen : l.length ≤ 100000) (w : World) (hv : RgAt w.heap.size w v l) :
    Calls Tryz.prog 8 #[v] w fun e w' => ∃ v' s, e = .returned v' ∧ RS.IsOf l s ∧ s.length ≤ l.length ∧ w'.ownsRow w.heap.size 42 2 v' s.length (flat2 s) ∧ Below w.heap.size w w' := by
  obtain ⟨i0, hi, hz0, hz1, hz2⟩ := info_parts info53
  have HV : Hid (RgAt w.heap.size w v l) := hv
  clear hv
  have hwl : (RS.within l).length ≤ l.length := by unfold RS.within; exact Nat.le_trans (List.length_filter_le _ _) (by simp)
  go_enter Tryz.func8, Tryz.ntmps8
  go_wp2_with fail
  refine (within_any v l (by omega) w HV.out).mono ?_
  rintro e w1 ⟨vc, rfl, hown, hb1⟩
  obtain ⟨c, hc⟩ : ∃ c, c = RS.within l := ⟨_, rfl⟩
  have HCW : Hid (c = RS.within l) := hc
  rw [← hc] at hown hwl
  clear hc
  by_cases hc0 : c = []
  · subst hc0
    obtain ⟨ac, capc, hvc, _, _⟩ := rg_of_own hown
    subst hvc
    have hof : RS.IsOf l [] := by
      have := RS.isOf_merge (l := l) (d := []) (by rw [← HCW.out]) List.Pairwise.nil
      exact this
    have HOF : Hid (RS.IsOf l []) := hof
    clear hof HCW hown HV
    go_wp2_with fail
    refine (sort_none ac capc _ _).mono ?_
    rintro e w2 ⟨rfl, rfl⟩
    go_wp2_with fail
    refine wp_loop_rounds 1 ?_
    rw [rounds_succ]
    go_wp2_with fail
    go_ret
    exact ⟨_, [], rfl, HOF.out, Nat.zero_le _, World.ownsRow_nil _ _ _ _, hb1⟩
  · go_wp2_with fail
    refine (sort_any vc c (by omega) hc0 _ hb1.size hown).mono ?_
    rintro e w2 ⟨rfl, d, hperm, hpair, hown2, hb2⟩
    have HOF : Hid (RS.IsOf l (RS.mergeL d)) := RS.isOf_merge (by rw [← HCW.out]; exact hperm) hpair
    have hdl : d.length = c.length := hperm.length_eq
    have HG : Hid (∀ r ∈ d, RS.good r) := fun r hr => RS.within_good (l := l) (by rw [← HCW.out]; exact hperm.mem_iff.1 hr)
    have hb3 := hb1.trans hb2
    rw [← hdl] at hown2
    obtain ⟨ac, capc, hvc, _, hcell⟩ := rg_of_own hown2
    subst hvc
    rw [← hdl] at hwl
    obtain ⟨bd, od, rfl, hbd, hcd⟩ := hcell (by intro e; subst e; simp at hdl; exact hc0 (List.length_eq_zero_iff.1 hdl.symm))
    have HCD : Hid (∀ k (h : k < d.length), w2.cell? ⟨bd, od + k * 2, none⟩ = some (.int .i64 d[k].1) ∧ w2.cell? ⟨bd, od + k * 2 + 1, none⟩ = some (.int .i64 d[k].2)) := hcd
    clear hcd hcell hown2 hown hperm hpair hb1 hb2 hc0 HCW HV hdl
    go_wp2
    go_loopw [4, 14] (fun v i wr => ∃ (k : Nat) (acc : List RS.Rg), k ≤ d.length ∧ i = .int .i64 k ∧ acc.length ≤ k ∧ MergeAt d k acc v ∧ wr.ownsRow w2.heap.size 42 2 v acc.length (flat2 acc) ∧ Below w2.heap.size w2 wr) (fun _ i _ => d.length - (intOf i).toNat)
    case atStart => exact ⟨0, [], Nat.zero_le _, rfl, Nat.le_refl _, .inl ⟨rfl, rfl, rfl⟩, World.ownsRow_nil _ _ _ _, Below.refl _ _⟩
    case round =>
      obtain ⟨k, acc, hk, rfl, hal, hm, hown, hnx⟩ := hrel
      by_cases hlt : k < d.length
      · obtain ⟨x0, x1⟩ := HCD.out k hlt
        replace x0 := (hnx.cell (p := ⟨bd, od + k * 2, none⟩) (by exact hbd)).trans x0
        replace x1 := (hnx.cell (p := ⟨bd, od + k * 2 + 1, none⟩) (by exact hbd)).trans x1
        obtain ⟨r, hr⟩ : ∃ r, r = d[k] := ⟨_, rfl⟩
        have hgr : RS.good r := HG.out r (by rw [hr]; exact List.getElem_mem hlt)
        rw [← hr] at x0 x1
        have hd : d.drop k = r :: d.drop (k + 1) := by rw [hr]; exact List.drop_eq_getElem_cons hlt
        have HD : Hid (d.drop k = r :: d.drop (k + 1)) := hd
        clear hr hd
        unfold RS.good at hgr
        obtain ⟨lo, hi'⟩ := r
        dsimp only at x0 x1 hgr
        have HB := hnx.alloc hnx.size (Obj.cells #[Value.int IntKind.i64 lo, Value.int IntKind.i64 hi'] 42)
        have hown1 := hown.alloc (Obj.cells #[Value.int IntKind.i64 lo, Value.int IntKind.i64 hi'] 42)
        rcases hm with ⟨hk0, rfl, rfl⟩ | ⟨pre, c, rfl, hpm, hcg⟩
        · have HK0 : Hid (k = 0) := hk0
          clear hk0
          go_wp2
          go_quiet (fail)
          go_wp2_with (at_builtin; refine wpList_append_own _ rfl _ _ 24 rfl w2.heap.size 42 i0 (.agg #[.int .i64 0, .int .i64 0]) 2 16 Tryz.underlying24 hi hz0 hz1 hz2 rfl (by decide) _ _ _ rfl (hown1.alloc _) ⟨wr.heap.size + 1, 0, none⟩ 1 1 (cells2 (lo, hi')) rfl rfl (cells2_at ?_ ?_) (cells2_one _) ?_ ?_ ?_ ?_)
          rotate_right
          · intro v' w3 hown' hgrow _
            have R := app53 (s := []) (r := (lo, hi')) ((below_drewN HB nq).alloc (by simp; have := hnx.size; omega) _) (by simp; have := hnx.size; omega) (hown1.alloc _) hown' hgrow
            have R2 : Hid _ := R
            clear R hown' hgrow hown hown1
            go_wp2
            go_roundw
            case rel => exact ⟨k + 1, [(lo, hi')], by omega, by go_num, by simp, .inr ⟨[], (lo, hi'), rfl, merge_first HK0.out HD.out, by unfold RS.good; dsimp only; omega⟩, R2.out.1, R2.out.2.1⟩
            case measure => simp [intOf]; omega
          · decide
          · decide
          · have := hnx.size; simp; omega
        · have HPM : Hid (pre ++ RS.mergeFrom c (d.drop k) = RS.mergeL d) := hpm
          clear hpm
          obtain ⟨g, capg, cur, hv, hgB, hgl, q0, q1⟩ := last_cells hown
          subst hv
          obtain ⟨m, hmm⟩ : ∃ m, m = pre.length := ⟨_, rfl⟩
          have hml : (pre ++ [c]).length = m + 1 := by rw [hmm]; simp
          rw [hml] at hal hown hown1 ⊢
          rw [← hmm] at q0 q1
          have HMM : Hid (m = pre.length) := hmm
          clear hmm hml
          have hm1 : m ≤ 100000 := by omega
          have hwm : IntKind.i64.wrap (m : Int) = m := wrap_small (by omega) (by omega)
          obtain ⟨cl, ch⟩ := c
          unfold RS.good at hcg
          dsimp only at q0 q1 hcg
          have q2 := fun o => (cell_alloc_old wr o g (m * 2) hgl).trans q0
          have q3 := fun o => (cell_alloc_old wr o g (m * 2 + 1) hgl).trans q1
          have hwc : IntKind.i64.wrap (ch + 1) = ch + 1 := wrap_small (by omega) (by omega)
          by_cases hle : lo ≤ ch + 1
          · have hdec : decide (lo ≤ ch + 1) = true := by simp [hle]
            go_wp2
            go_quiet (fail)
            have y0 : ((wr.alloc (Obj.cells #[Value.int IntKind.i64 lo, Value.int IntKind.i64 hi'] 42)).drewN nq).cell? ⟨wr.heap.size, 1, none⟩ = some (.int .i64 hi') := by simp
            have y1 : ((wr.alloc (Obj.cells #[Value.int IntKind.i64 lo, Value.int IntKind.i64 hi'] 42)).drewN nq).cell? ⟨g, m * 2 + 1, none⟩ = some (.int .i64 ch) := q3 _
            have y2 : ((wr.alloc (Obj.cells #[Value.int IntKind.i64 lo, Value.int IntKind.i64 hi'] 42)).drewN nq).ownsRow w2.heap.size 42 2 (.slice (some ⟨g, 0, none⟩) (m + 1) capg) (m + 1) (flat2 (pre ++ [(cl, ch)])) := hown1
            have y3 := y2.frozenAt (m * 2 + 1)
            have y4 := below_drewN HB nq
            have y5 : w2.heap.size ≤ ((wr.alloc (Obj.cells #[Value.int IntKind.i64 lo, Value.int IntKind.i64 hi'] 42)).drewN nq).heap.size := y4.size
            clear hown hown1 HB q2 q3 q0 q1 x0 x1
            generalize (wr.alloc (Obj.cells #[Value.int IntKind.i64 lo, Value.int IntKind.i64 hi'] 42)).drewN nq = W3 at y0 y1 y2 y3 y4 y5 ⊢
            have Y2 : Hid (W3.ownsRow w2.heap.size 42 2 (.slice (some ⟨g, 0, none⟩) (m + 1) capg) (m + 1) (flat2 (pre ++ [(cl, ch)]))) := y2
            have hmx : IntKind.i64.wrap (m : Int) = m := hwm
            clear y2
            go_wp2
            go_region
            all_goals go_wp2
            case roundEnd => exact ⟨⟨k + 1, pre ++ [(cl, max ch hi')], by omega, by go_num, by have := HMM.out; simp; omega, .inr ⟨pre, (cl, max ch hi'), rfl, merge_join hle HD.out HPM.out, by unfold RS.good; dsimp only; omega⟩, merge_own HMM.out Y2.out, (y4.setCell (p := ⟨g, m * 2 + 1, none⟩) (by exact hgB) _).drew⟩, by simp [intOf]; omega⟩
          · have hdec : decide (lo ≤ ch + 1) = false := by simp; omega
            go_wp2
            go_quiet (fail)
            go_wp2_with (at_builtin; refine wpList_append_own _ rfl _ _ 24 rfl w2.heap.size 42 i0 (.agg #[.int .i64 0, .int .i64 0]) 2 16 Tryz.underlying24 hi hz0 hz1 hz2 rfl (by decide) _ _ _ rfl (hown1.alloc _) ⟨wr.heap.size + 1, 0, none⟩ 1 1 (cells2 (lo, hi')) rfl rfl (cells2_at ?_ ?_) (cells2_one _) ?_ ?_ ?_ ?_)
            rotate_right
            · intro v' w3 hown' hgrow _
              have hml : m + 1 = (pre ++ [(cl, ch)]).length := by have := HMM.out; simp; omega
              rw [hml] at hown1 hown'
              have R := app53 (s := pre ++ [(cl, ch)]) (r := (lo, hi')) ((below_drewN HB nq).alloc (by simp; have := hnx.size; omega) _) (by simp; have := hnx.size; omega) (hown1.alloc _) hown' (by rw [← hml]; exact hgrow)
              have R2 : Hid _ := R
              have HML : Hid (m + 1 = (pre ++ [(cl, ch)]).length) := hml
              clear R hown' hgrow hown hown1 hml
              go_wp2
              go_roundw
              case rel => exact ⟨k + 1, (pre ++ [(cl, ch)]) ++ [(lo, hi')], by omega, by go_num, by have := HML.out; rw [List.length_append, ← this]; simp; omega, .inr ⟨pre ++ [(cl, ch)], (lo, hi'), rfl, merge_part (by omega) HD.out HPM.out, by unfold RS.good; dsimp only; omega⟩, R2.out.1, R2.out.2.1⟩
              case measure => simp [intOf]; omega
            · unfold maxLen; omega
            · omega
            · have := hnx.size; simp; omega
      · go_wp2
        go_ret
        have e := merge_end hm (by omega)
        rw [← e] at HOF
        exact ⟨_, acc, rfl, HOF.out, by omega, owns_mono hown hb3.size, hb3.trans (hnx.mono hb3.size)⟩

end Go.Proofs.YtefcjoomongcmaaGreatDoor
