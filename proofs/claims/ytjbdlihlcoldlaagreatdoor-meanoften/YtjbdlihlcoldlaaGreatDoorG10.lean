/- set.Of. -/
import Derived.Test.YtjbdlihlcoldlaaGreatDoorG09
import Derived.BigRegion
import Derived.Test.YtjbdlihlcoldlaaGreatDoorG02
import Derived.Deep.RegionWith
import Derived.Deep.CutRange
namespace Go.Proofs.YtjbdlihlcoldlaaGreatDoor
open Go.RowKit

/-- What the merging has come to. -/
def MergeAt (d : List RS.Rg) (k : Nat) (acc : List RS.Rg) (v : Value) : Prop :=
  (k = 0 ∧ acc = [] ∧ v = .slice none 0 0) ∨ ∃ pre c, acc = pre ++ [c] ∧ pre ++ RS.mergeFrom c (d.drop k) = RS.mergeL d ∧ RS.good c

theorem merge_join {d pre : List RS.Rg} {k : Nat} {cl ch lo hi : Int} (h : lo ≤ ch + 1) (hd : d.drop k = (lo, hi) :: d.drop (k + 1)) (hp : pre ++ RS.mergeFrom (cl, ch) (d.drop k) = RS.mergeL d) : pre ++ RS.mergeFrom (cl, max ch hi) (d.drop (k + 1)) = RS.mergeL d := by
  rw [← hp, hd, RS.mergeFrom, if_pos h]

theorem merge_part {d pre : List RS.Rg} {k : Nat} {cl ch lo hi : Int} (h : ¬ lo ≤ ch + 1) (hd : d.drop k = (lo, hi) :: d.drop (k + 1)) (hp : pre ++ RS.mergeFrom (cl, ch) (d.drop k) = RS.mergeL d) : (pre ++ [(cl, ch)]) ++ RS.mergeFrom (lo, hi) (d.drop (k + 1)) = RS.mergeL d := by
  rw [← hp, hd, RS.mergeFrom, if_neg h, List.append_assoc]
  rfl

theorem merge_end {d acc : List RS.Rg} {k : Nat} {v : Value} (h : MergeAt d k acc v) (hk : d.length ≤ k) : acc = RS.mergeL d := by
  rcases h with ⟨rfl, rfl, _⟩ | ⟨pre, c, rfl, hp, _⟩
  · obtain rfl : d = [] := List.length_eq_zero_iff.1 (by omega)
    rfl
  · rw [← hp, List.drop_of_length_le hk]
    rfl

theorem merge_first {d : List RS.Rg} {k : Nat} {r : RS.Rg} (hk : k = 0) (hd : d.drop k = r :: d.drop (k + 1)) : [] ++ RS.mergeFrom r (d.drop (k + 1)) = RS.mergeL d := by
  subst hk
  rw [List.drop_zero] at hd
  rw [List.nil_append]
  conv => rhs; rw [hd]
  rfl

set_option maxHeartbeats 1000000 in
set_option maxRecDepth 100000 in
theorem of_any (v : Value) (l : List RS.Rg) (hlen : l.length ≤ 3000000) (w : World) (hv : RgAt w.heap.size w v l) :
    Calls Tryz.prog 127 #[v] w fun e w' => ∃ v' s, e = .returned v' ∧ RS.IsOf l s ∧ s.length ≤ l.length ∧ w'.ownsRow w.heap.size 46 2 v' s.length (flat2 s) ∧ Below w.heap.size w w' := by
  obtain ⟨i0, hi, hz0, hz1, hz2⟩ := info_parts info53
  have HV : Hid (RgAt w.heap.size w v l) := hv
  clear hv
  have hwl : (RS.within l).length ≤ l.length := by unfold RS.within; exact Nat.le_trans (List.length_filter_le _ _) (by simp)
  go_enter Tryz.func127, Tryz.ntmps127
  go_wp2_with fail
  refine (within_any v l (by omega) w HV.out).mono ?_
  rintro e w1 ⟨vc, rfl, hown, hb1⟩
  obtain ⟨c, hc⟩ : ∃ c, c = RS.within l := ⟨_, rfl⟩
  have HCW : Hid (c = RS.within l) := hc
  rw [← hc] at hown hwl
  clear hc
  by_cases hc0 : c = []
  · subst hc0
    obtain ⟨ac, capc, hvc, _, _⟩ := rg_of_own hown
    subst hvc
    have hof : RS.IsOf l [] := by
      have := RS.isOf_merge (l := l) (d := []) (by rw [← HCW.out]) List.Pairwise.nil
      exact this
    have HOF : Hid (RS.IsOf l []) := hof
    clear hof HCW hown HV
    go_wp2_with fail
    refine (sort_none ac capc _ _).mono ?_
    rintro e w2 ⟨rfl, rfl⟩
    go_wp2_with fail
    refine wp_loop_rounds 1 ?_
    rw [rounds_succ]
    go_wp2_with fail
    go_ret
    exact ⟨_, [], rfl, HOF.out, Nat.zero_le _, World.ownsRow_nil _ _ _ _, hb1⟩
  · go_wp2_with fail
    refine (sort_any vc c (by omega) hc0 _ hb1.size hown).mono ?_
    rintro e w2 ⟨rfl, d, hperm, hpair, hown2, hb2⟩
    have HOF : Hid (RS.IsOf l (RS.mergeL d)) := RS.isOf_merge (by rw [← HCW.out]; exact hperm) hpair
    have hdl : d.length = c.length := hperm.length_eq
    have HG : Hid (∀ r ∈ d, RS.good r) := fun r hr => RS.within_good (l := l) (by rw [← HCW.out]; exact hperm.mem_iff.1 hr)
    have hb3 := hb1.trans hb2
    rw [← hdl] at hown2
    obtain ⟨ac, capc, hvc, _, hcell⟩ := rg_of_own hown2
    subst hvc
    rw [← hdl] at hwl
    obtain ⟨bd, od, rfl, hbd, hcd⟩ := hcell (by intro e; subst e; simp at hdl; exact hc0 (List.length_eq_zero_iff.1 hdl.symm))
    have HCD : Hid (∀ k (h : k < d.length), w2.cell? ⟨bd, od + k * 2, none⟩ = some (.int .i64 d[k].1) ∧ w2.cell? ⟨bd, od + k * 2 + 1, none⟩ = some (.int .i64 d[k].2)) := hcd
    clear hcd hcell hown2 hown hperm hpair hb1 hb2 hc0 HCW HV hdl
    go_wp2
    go_loopw [4, 14] (fun v i wr => ∃ (k : Nat) (acc : List RS.Rg), k ≤ d.length ∧ i = .int .i64 k ∧ acc.length ≤ k ∧ MergeAt d k acc v ∧ wr.ownsRow w2.heap.size 46 2 v acc.length (flat2 acc) ∧ Below w2.heap.size w2 wr) (fun _ i _ => d.length - (intOf i).toNat)
    case atStart => exact ⟨0, [], Nat.zero_le _, rfl, Nat.le_refl _, .inl ⟨rfl, rfl, rfl⟩, World.ownsRow_nil _ _ _ _, Below.refl _ _⟩
    case round =>
      obtain ⟨k, acc, hk, rfl, hal, hm, hown, hnx⟩ := hrel
      by_cases hlt : k < d.length
      · obtain ⟨x0, x1⟩ := HCD.out k hlt
        replace x0 := (hnx.cell (p := ⟨bd, od + k * 2, none⟩) (by exact hbd)).trans x0
        replace x1 := (hnx.cell (p := ⟨bd, od + k * 2 + 1, none⟩) (by exact hbd)).trans x1
        obtain ⟨r, hr⟩ : ∃ r, r = d[k] := ⟨_, rfl⟩
        have hgr : RS.good r := HG.out r (by rw [hr]; exact List.getElem_mem hlt)
        rw [← hr] at x0 x1
        have hd : d.drop k = r :: d.drop (k + 1) := by rw [hr]; exact List.drop_eq_getElem_cons hlt
        have HD : Hid (d.drop k = r :: d.drop (k + 1)) := hd
        clear hr hd
        unfold RS.good at hgr
        obtain ⟨lo, hi'⟩ := r
        dsimp only at x0 x1 hgr
        have HB := hnx.alloc hnx.size (Obj.cells #[Value.int IntKind.i64 lo, Value.int IntKind.i64 hi'] 46)
        have hown1 := hown.alloc (Obj.cells #[Value.int IntKind.i64 lo, Value.int IntKind.i64 hi'] 46)
        rcases hm with ⟨hk0, rfl, rfl⟩ | ⟨pre, c, rfl, hpm, hcg⟩
        · have HK0 : Hid (k = 0) := hk0
          clear hk0
          go_wp2
          go_quiet (fail)
          go_wp2_with (at_builtin; refine wpList_append_own _ rfl _ _ 41 rfl w2.heap.size 46 i0 (.agg #[.int .i64 0, .int .i64 0]) 2 16 Tryz.underlying41 hi hz0 hz1 hz2 rfl (by decide) _ _ _ rfl (hown1.alloc _) ⟨wr.heap.size + 1, 0, none⟩ 1 1 (cells2 (lo, hi')) rfl rfl (cells2_at ?_ ?_) (cells2_one _) ?_ ?_ ?_ ?_)
          rotate_right
          · intro v' w3 hown' hgrow _
            have R := app53 (s := []) (r := (lo, hi')) ((below_drewN HB nq).alloc (by simp; have := hnx.size; omega) _) (by simp; have := hnx.size; omega) (hown1.alloc _) hown' hgrow
            have R2 : Hid _ := R
            clear R hown' hgrow hown hown1
            go_wp2
            go_roundw
            case rel => exact ⟨k + 1, [(lo, hi')], by omega, by go_num, by simp, .inr ⟨[], (lo, hi'), rfl, merge_first HK0.out HD.out, by unfold RS.good; dsimp only; omega⟩, R2.out.1, R2.out.2.1⟩
            case measure => simp [intOf]; omega
          · decide
          · decide
          · have := hnx.size; simp; omega
        · have HPM : Hid (pre ++ RS.mergeFrom c (d.drop k) = RS.mergeL d) := hpm
          clear hpm
          obtain ⟨g, capg, cur, hv, hgB, hgl, q0, q1⟩ := last_cells hown
          subst hv
          obtain ⟨m, hmm⟩ : ∃ m, m = pre.length := ⟨_, rfl⟩
          have hml : (pre ++ [c]).length = m + 1 := by rw [hmm]; simp
          rw [hml] at hal hown hown1 ⊢
          rw [← hmm] at q0 q1
          have HMM : Hid (m = pre.length) := hmm
          clear hmm hml
          have hm1 : m ≤ 3000000 := by omega
          have hwm : IntKind.i64.wrap (m : Int) = m := wrap_small (by omega) (by omega)
          obtain ⟨cl, ch⟩ := c
          unfold RS.good at hcg
          dsimp only at q0 q1 hcg
          have q2 := fun o => (cell_alloc_old wr o g (m * 2) hgl).trans q0
          have q3 := fun o => (cell_alloc_old wr o g (m * 2 + 1) hgl).trans q1
          have hwc : IntKind.i64.wrap (ch + 1) = ch + 1 := wrap_small (by omega) (by omega)
          by_cases hle : lo ≤ ch + 1
          · have hdec : decide (lo ≤ ch + 1) = true := by simp [hle]
            go_wp2
            go_quiet (fail)
            have y0 : ((wr.alloc (Obj.cells #[Value.int IntKind.i64 lo, Value.int IntKind.i64 hi'] 46)).drewN nq).cell? ⟨wr.heap.size, 1, none⟩ = some (.int .i64 hi') := by simp
            have y1 : ((wr.alloc (Obj.cells #[Value.int IntKind.i64 lo, Value.int IntKind.i64 hi'] 46)).drewN nq).cell? ⟨g, m * 2 + 1, none⟩ = some (.int .i64 ch) := q3 _
            have y2 : ((wr.alloc (Obj.cells #[Value.int IntKind.i64 lo, Value.int IntKind.i64 hi'] 46)).drewN nq).ownsRow w2.heap.size 46 2 (.slice (some ⟨g, 0, none⟩) (m + 1) capg) (m + 1) (flat2 (pre ++ [(cl, ch)])) := hown1
            have y3 := y2.frozenAt (m * 2 + 1)
            have y4 := below_drewN HB nq
            have y5 : w2.heap.size ≤ ((wr.alloc (Obj.cells #[Value.int IntKind.i64 lo, Value.int IntKind.i64 hi'] 46)).drewN nq).heap.size := y4.size
            clear hown hown1 HB q2 q3 q0 q1 x0 x1
            generalize (wr.alloc (Obj.cells #[Value.int IntKind.i64 lo, Value.int IntKind.i64 hi'] 46)).drewN nq = W3 at y0 y1 y2 y3 y4 y5 ⊢
            have Y2 : Hid (W3.ownsRow w2.heap.size 46 2 (.slice (some ⟨g, 0, none⟩) (m + 1) capg) (m + 1) (flat2 (pre ++ [(cl, ch)]))) := y2
            have hmx : IntKind.i64.wrap (m : Int) = m := hwm
            clear y2
            go_wp2
            go_region
            all_goals go_wp2
            case roundEnd => exact ⟨⟨k + 1, pre ++ [(cl, max ch hi')], by omega, by go_num, by have := HMM.out; simp; omega, .inr ⟨pre, (cl, max ch hi'), rfl, merge_join hle HD.out HPM.out, by unfold RS.good; dsimp only; omega⟩, merge_own HMM.out Y2.out, (y4.setCell (p := ⟨g, m * 2 + 1, none⟩) (by exact hgB) _).drew⟩, by simp [intOf]; omega⟩
          · have hdec : decide (lo ≤ ch + 1) = false := by simp; omega
            go_wp2
            go_quiet (fail)
            go_wp2_with (at_builtin; refine wpList_append_own _ rfl _ _ 41 rfl w2.heap.size 46 i0 (.agg #[.int .i64 0, .int .i64 0]) 2 16 Tryz.underlying41 hi hz0 hz1 hz2 rfl (by decide) _ _ _ rfl (hown1.alloc _) ⟨wr.heap.size + 1, 0, none⟩ 1 1 (cells2 (lo, hi')) rfl rfl (cells2_at ?_ ?_) (cells2_one _) ?_ ?_ ?_ ?_)
            rotate_right
            · intro v' w3 hown' hgrow _
              have hml : m + 1 = (pre ++ [(cl, ch)]).length := by have := HMM.out; simp; omega
              rw [hml] at hown1 hown'
              have R := app53 (s := pre ++ [(cl, ch)]) (r := (lo, hi')) ((below_drewN HB nq).alloc (by simp; have := hnx.size; omega) _) (by simp; have := hnx.size; omega) (hown1.alloc _) hown' (by rw [← hml]; exact hgrow)
              have R2 : Hid _ := R
              have HML : Hid (m + 1 = (pre ++ [(cl, ch)]).length) := hml
              clear R hown' hgrow hown hown1 hml
              go_wp2
              go_roundw
              case rel => exact ⟨k + 1, (pre ++ [(cl, ch)]) ++ [(lo, hi')], by omega, by go_num, by have := HML.out; rw [List.length_append, ← this]; simp; omega, .inr ⟨pre ++ [(cl, ch)], (lo, hi'), rfl, merge_part (by omega) HD.out HPM.out, by unfold RS.good; dsimp only; omega⟩, R2.out.1, R2.out.2.1⟩
              case measure => simp [intOf]; omega
            · unfold maxLen; omega
            · omega
            · have := hnx.size; simp; omega
      · go_wp2
        go_ret
        have e := merge_end hm (by omega)
        rw [← e] at HOF
        exact ⟨_, acc, rfl, HOF.out, by omega, owns_mono hown hb3.size, hb3.trans (hnx.mono hb3.size)⟩

end Go.Proofs.YtjbdlihlcoldlaaGreatDoor

namespace Go.Proofs.YtjbdlihlcoldlaaGreatDoor
open Go.RowKit

def lenV : Value → Nat
  | .slice _ n _ => n
  | _ => 0

/-- The rest of a slice of ranges: as many as there are; where they lie if there are any. -/
def RestAt (v : Value) (b off : Nat) (s : List RS.Rg) (j : Nat) : Prop :=
  ∃ ao cap, v = .slice ao (s.length - j) cap ∧ s.length - j ≤ cap ∧ (j < s.length → ao = some ⟨b, off + j * 2, none⟩)

theorem cellIf {W w' : World} (h : Below W.heap.size W w') (b k : Nat) : b < W.heap.size → w'.cell? ⟨b, k, none⟩ = W.cell? ⟨b, k, none⟩ := fun hb => h.cell (by exact hb)
theorem frozenIf {W w' : World} (h : Below W.heap.size W w') (b k : Nat) : b < W.heap.size → w'.frozen? ⟨b, k, none⟩ = W.frozen? ⟨b, k, none⟩ := fun hb => h.frozen (by exact hb)

theorem rest_next {b off m c i : Nat} {s : List RS.Rg} (h : i < s.length) (hm : m = s.length - i) (hc : m ≤ c) :
    RestAt (Value.slice (if c = 1 then some { block := b, off := off + i * 2 } else some { block := b, off := off + i * 2 + 2 }) (m - 1) (c - 1)) b off s (i + 1) := by
  have e : m - 1 = s.length - (i + 1) := by omega
  rw [e]
  refine ⟨_, _, rfl, by omega, fun h' => ?_⟩
  rw [if_neg (by omega), show off + i * 2 + 2 = off + (i + 1) * 2 by omega]

theorem rest_same {b off m c i : Nat} {s : List RS.Rg} (_h : i < s.length) (hm : m = s.length - i) (hc : m ≤ c) :
    RestAt (Value.slice (some { block := b, off := off + i * 2 }) m c) b off s i := by
  rw [hm]
  exact ⟨_, _, rfl, by omega, fun _ => rfl⟩

/-- A variable that holds a range, beside a row of the call's own. -/
def RgVar (B : Nat) (w : World) (u : Value) (s : List RS.Rg) (r : RS.Rg) (p : Value) (W : World) : Prop :=
  ∃ bq, p = .pointer (some ⟨bq, 0, none⟩) ∧ W.cell? ⟨bq, 0, none⟩ = some (.int .i64 r.1) ∧ W.cell? ⟨bq, 1, none⟩ = some (.int .i64 r.2) ∧ bq < W.heap.size ∧ u.ownBlock ≠ some bq ∧ W.ownsRow B 46 2 u s.length (flat2 s) ∧ Below B w W ∧ B ≤ W.heap.size

theorem below_drew {w w1 : World} (h : Below w.drew.heap.size w.drew w1) : Below w.heap.size w w1 := ⟨h.os, h.tape, h.output, h.size, h.block⟩

theorem rgvarA {w wr w2 : World} {B : Nat} {u : Value} {s : List RS.Rg} {cl ch : Int} {c0 c1 : Value} {z : Obj} (hnx : Below B w wr) (hown : wr.ownsRow B 46 2 u s.length (flat2 s)) (hb3 : Below (wr.alloc z).drew.heap.size (wr.alloc z).drew w2)
    (q0 : w2.cell? ⟨wr.heap.size, 0, none⟩ = some c0) (q1 : w2.cell? ⟨wr.heap.size, 1, none⟩ = some c1) (hB : w.heap.size = B) :
    RgVar B w u s (cl, ch) (.pointer (some ⟨wr.heap.size, 0, none⟩)) ((w2.setCell ⟨wr.heap.size, 0, none⟩ (.int .i64 cl)).setCell ⟨wr.heap.size, 1, none⟩ (.int .i64 ch)) := by
  have hb := below_drew hb3
  have hs : B ≤ wr.heap.size := by have := hnx.size; omega
  have hs2 : wr.heap.size + 1 ≤ w2.heap.size := by have := hb.size; simpa using this
  have hne : u.ownBlock ≠ some wr.heap.size := fun e => by have := (hown.lt _ e).2; omega
  refine ⟨wr.heap.size, rfl, ?_, ?_, by simp; omega, hne, ownsRow_setCell_other (ownsRow_setCell_other (owns_later (hown.alloc z) hb) hne _) hne _, (((hnx.alloc hs z).trans (hb.mono (by simp; omega))).setCell (p := ⟨wr.heap.size, 0, none⟩) (by exact hs) _).setCell (p := ⟨wr.heap.size, 1, none⟩) (by exact hs) _, by simp; omega⟩
  · exact (World.cell?_setCell_other _ _ _ _ (by simp)).trans (World.cell?_setCell_same _ _ _ q0)
  · exact World.cell?_setCell_same _ _ _ ((World.cell?_setCell_other _ _ _ _ (by simp)).trans q1)

theorem rgvarB {w wr w2 : World} {B : Nat} {u : Value} {s : List RS.Rg} {cl ch : Int} (hnx : Below B w wr) (hown : wr.ownsRow B 46 2 u s.length (flat2 s)) (hb3 : Below wr.drew.heap.size wr.drew w2) (hB : w.heap.size = B) :
    RgVar B w u s (cl, ch) (.pointer (some ⟨w2.heap.size, 0, none⟩)) (w2.alloc (Obj.cells #[Value.int IntKind.i64 cl, Value.int IntKind.i64 ch] 46)) := by
  have hb := below_drew hb3
  have hs : B ≤ wr.heap.size := by have := hnx.size; omega
  have hs2 := hb.size
  refine ⟨w2.heap.size, rfl, by simp, by simp, by simp, fun e => by have := ((owns_later hown hb).lt _ e).2; omega, (owns_later hown hb).alloc _, (hnx.trans (hb.mono hs)).alloc (by omega) _, by simp; omega⟩

set_option maxHeartbeats 1000000 in
set_option maxRecDepth 100000 in
theorem and_some (b1 o1 c1 b2 o2 c2 : Nat) (s t : List RS.Rg) (hs : s.length ≤ 4000000) (ht : t.length ≤ 4000000) (hs0 : 0 < s.length) (ht0 : 0 < t.length) (hcs : s.length ≤ c1) (hct : t.length ≤ c2) (w : World) (hb1 : b1 < w.heap.size) (hb2 : b2 < w.heap.size)
    (hc1 : ∀ k (h : k < s.length), w.cell? ⟨b1, o1 + k * 2, none⟩ = some (.int .i64 s[k].1) ∧ w.cell? ⟨b1, o1 + k * 2 + 1, none⟩ = some (.int .i64 s[k].2))
    (hc2 : ∀ k (h : k < t.length), w.cell? ⟨b2, o2 + k * 2, none⟩ = some (.int .i64 t[k].1) ∧ w.cell? ⟨b2, o2 + k * 2 + 1, none⟩ = some (.int .i64 t[k].2)) :
    Calls Tryz.prog 70 #[.slice (some ⟨b1, o1, none⟩) s.length c1, .slice (some ⟨b2, o2, none⟩) t.length c2] w fun e w' => ∃ v, e = .returned v ∧ w'.ownsRow w.heap.size 46 2 v (RS.andL s t).length (flat2 (RS.andL s t)) ∧ Below w.heap.size w w' := by
  obtain ⟨i0, hi, hz0, hz1, hz2⟩ := info_parts info53
  have HC1 : Hid (∀ k (h : k < s.length), w.cell? ⟨b1, o1 + k * 2, none⟩ = some (.int .i64 s[k].1) ∧ w.cell? ⟨b1, o1 + k * 2 + 1, none⟩ = some (.int .i64 s[k].2)) := hc1
  have HC2 : Hid (∀ k (h : k < t.length), w.cell? ⟨b2, o2 + k * 2, none⟩ = some (.int .i64 t[k].1) ∧ w.cell? ⟨b2, o2 + k * 2 + 1, none⟩ = some (.int .i64 t[k].2)) := hc2
  clear hc1 hc2
  go_enter Tryz.func70, Tryz.ntmps70
  go_wp2
  go_loopw [0, 1, 5] (fun va vb v wr => ∃ (i j : Nat) (out : List RS.Rg), i ≤ s.length ∧ j ≤ t.length ∧ RestAt va b1 o1 s i ∧ RestAt vb b2 o2 t j ∧ out.length ≤ i + j ∧ out ++ RS.andL (s.drop i) (t.drop j) = RS.andL s t ∧ wr.ownsRow w.heap.size 46 2 v out.length (flat2 out) ∧ Below w.heap.size w wr) (fun va vb _ _ => lenV va + lenV vb)
  case atStart => exact ⟨0, 0, [], Nat.zero_le _, Nat.zero_le _, ⟨_, _, rfl, hcs, fun _ => rfl⟩, ⟨_, _, rfl, hct, fun _ => rfl⟩, Nat.le_refl _, rfl, World.ownsRow_nil _ _ _ _, Below.refl _ _⟩
  case round =>
    obtain ⟨i, j, out, hi1, hj1, ⟨aoa, ca, rfl, hca, ha⟩, ⟨aob, cb, rfl, hcb, hb⟩, hol, hout, hown, hnx⟩ := hrel
    have HO : Hid (out ++ RS.andL (s.drop i) (t.drop j) = RS.andL s t) := hout
    clear hout
    by_cases h1 : i < s.length
    · by_cases h2 : j < t.length
      · obtain rfl := ha h1
        obtain rfl := hb h2
        clear ha hb
        obtain ⟨x0, x1⟩ := HC1.out i h1
        replace x0 := (hnx.cell (p := ⟨b1, o1 + i * 2, none⟩) (by exact hb1)).trans x0
        replace x1 := (hnx.cell (p := ⟨b1, o1 + i * 2 + 1, none⟩) (by exact hb1)).trans x1
        obtain ⟨y0, y1⟩ := HC2.out j h2
        replace y0 := (hnx.cell (p := ⟨b2, o2 + j * 2, none⟩) (by exact hb2)).trans y0
        replace y1 := (hnx.cell (p := ⟨b2, o2 + j * 2 + 1, none⟩) (by exact hb2)).trans y1
        obtain ⟨x, hx⟩ : ∃ x, x = s[i] := ⟨_, rfl⟩
        obtain ⟨y, hy⟩ : ∃ y, y = t[j] := ⟨_, rfl⟩
        rw [← hx] at x0 x1
        rw [← hy] at y0 y1
        have HO2 : Hid (out ++ ((if (RS.both x y).1 ≤ (RS.both x y).2 then [RS.both x y] else []) ++ (if x.2 < y.2 then RS.andL (s.drop (i + 1)) (t.drop j) else RS.andL (s.drop i) (t.drop (j + 1)))) = RS.andL s t) := by
          show _ = _
          have e1 : s.drop i = x :: s.drop (i + 1) := by rw [hx]; exact List.drop_eq_getElem_cons h1
          have e2 : t.drop j = y :: t.drop (j + 1) := by rw [hy]; exact List.drop_eq_getElem_cons h2
          rw [← HO.out, e1, e2, RS.andL_cons]
        clear HO hx hy
        obtain ⟨m, hm⟩ : ∃ m, m = s.length - i := ⟨_, rfl⟩
        obtain ⟨n, hn⟩ : ∃ n, n = t.length - j := ⟨_, rfl⟩
        rw [← hm, ← hn]
        rw [← hm] at hca
        rw [← hn] at hcb
        have hm0 : 0 < m := by omega
        have hn0 : 0 < n := by omega
        have hm1 : m ≤ 4000000 := by omega
        have hn1 : n ≤ 4000000 := by omega
        obtain ⟨xl, xh⟩ := x
        obtain ⟨yl, yh⟩ := y
        obtain ⟨c, hcut⟩ : ∃ c, c = RS.both (xl, xh) (yl, yh) := ⟨_, rfl⟩
        rw [← hcut] at HO2
        have hcon := fun W => both_any (xl, xh) (yl, yh) W
        rw [← hcut] at hcon
        obtain ⟨cl, ch⟩ := c
        dsimp only at x0 x1 y0 y1 HO2 hcon
        clear hcut
        have HM : Hid (m = s.length - i) := hm
        have HN : Hid (n = t.length - j) := hn
        clear hm hn
        go_wp2_with fail
        have X0 : ∀ o, (wr.alloc o).cell? ⟨b1, o1 + i * 2, none⟩ = some (.int .i64 xl) := fun o => ((hnx.alloc hnx.size o).cell (by exact hb1)).trans ((hnx.cell (by exact hb1)).symm.trans x0)
        have X1 : ∀ o, (wr.alloc o).cell? ⟨b1, o1 + i * 2 + 1, none⟩ = some (.int .i64 xh) := fun o => ((hnx.alloc hnx.size o).cell (by exact hb1)).trans ((hnx.cell (by exact hb1)).symm.trans x1)
        have Y0 : ∀ o, (wr.alloc o).cell? ⟨b2, o2 + j * 2, none⟩ = some (.int .i64 yl) := fun o => ((hnx.alloc hnx.size o).cell (by exact hb2)).trans ((hnx.cell (by exact hb2)).symm.trans y0)
        have Y1 : ∀ o, (wr.alloc o).cell? ⟨b2, o2 + j * 2 + 1, none⟩ = some (.int .i64 yh) := fun o => ((hnx.alloc hnx.size o).cell (by exact hb2)).trans ((hnx.cell (by exact hb2)).symm.trans y1)
        go_cut [6] from 7 to 43 (fun p W => RgVar w.heap.size w u5 out (cl, ch) p W)
        case first =>
          go_region_with (go_at_call 129; refine (hcon _).mono ?_; rintro e w2 ⟨rfl, hb3⟩; have q0 := cellIf hb3 wr.heap.size 0; have q1 := cellIf hb3 wr.heap.size 1; have q2 := frozenIf hb3 wr.heap.size 0; have q3 := frozenIf hb3 wr.heap.size 1; simp at q0 q1 q2 q3)
          all_goals go_wp2
          all_goals go_meet
          all_goals first | exact rgvarA hnx hown hb3 q0 q1 rfl | exact rgvarB hnx hown hb3 rfl
        case rest =>
          obtain ⟨bq, rfl, z0, z1, hq1, hq2, hown2, hnx2, hsz2⟩ := hcut
          clear hown hcon X0 X1 Y0 Y1
          have hcx : ∀ W, Below w.heap.size w W → W.cell? ⟨b1, o1 + i * 2 + 1, none⟩ = some (.int .i64 xh) := fun W h => (h.cell (by exact hb1)).trans ((hnx.cell (by exact hb1)).symm.trans x1)
          have hcy : ∀ W, Below w.heap.size w W → W.cell? ⟨b2, o2 + j * 2 + 1, none⟩ = some (.int .i64 yh) := fun W h => (h.cell (by exact hb2)).trans ((hnx.cell (by exact hb2)).symm.trans y1)
          clear x0 x1 y0 y1 hnx
          go_upto_if 26 with (fail)
          go_cut [5] from 7 to 43 (fun v W => ∃ out', out' = out ++ (if cl ≤ ch then [(cl, ch)] else []) ∧ W.ownsRow w.heap.size 46 2 v (List.length out') (flat2 out') ∧ Below w.heap.size w W)
          case first =>
            by_cases hcl : cl ≤ ch
            · go_wp2_with (at_builtin; refine wpList_append_own _ rfl _ _ 41 rfl w.heap.size 46 i0 (.agg #[.int .i64 0, .int .i64 0]) 2 16 Tryz.underlying41 hi hz0 hz1 hz2 rfl (by decide) _ _ _ rfl (hown2.alloc _) ⟨wc.heap.size, 0, none⟩ 1 1 (cells2 (cl, ch)) rfl rfl (cells2_at ?_ ?_) (cells2_one _) ?_ ?_ ?_ ?_)
              rotate_right
              · intro v' w1 hown' hgrow _
                have R := app53 (r := (cl, ch)) (hnx2.alloc hsz2 _) (by simp; omega) (hown2.alloc _) hown' hgrow
                have R2 : Hid _ := R
                clear R hown' hgrow hown2
                go_wp2
                go_meet
                exact ⟨_, by rw [if_pos hcl], R2.out.1, R2.out.2.1⟩
              · unfold maxLen; omega
              · omega
              · omega
            · go_wp2
              go_meet
              exact ⟨_, by rw [if_neg (by omega), List.append_nil], hown2, hnx2⟩
          case rest =>
            obtain ⟨out', ho', hown3, hnx3⟩ := hcut
            have hol' : out'.length ≤ i + j + 1 := by rw [ho']; split <;> simp <;> omega
            have HO3 : Hid (out' ++ (if xh < yh then RS.andL (s.drop (i + 1)) (t.drop j) else RS.andL (s.drop i) (t.drop (j + 1))) = RS.andL s t) := by
              show _ = _
              rw [← HO2.out, ho', List.append_assoc]
            have p1 := hcx _ hnx3
            have p2 := hcy _ hnx3
            clear ho' HO2 hcx hcy hnx2 hown2 z0 z1 hq1 hq2 hsz2
            by_cases hxy : xh < yh
            · go_wp2
              go_region
              all_goals go_wp2
              case roundEnd => exact ⟨⟨i + 1, j, out', by omega, hj1, rest_next h1 HM.out hca, rest_same h2 HN.out hcb, by omega, by have := HO3.out; rw [if_pos hxy] at this; exact this, hown3, hnx3.drew⟩, by simp [lenV]; omega⟩
            · go_wp2
              go_region
              all_goals go_wp2
              case roundEnd => exact ⟨⟨i, j + 1, out', hi1, by omega, rest_same h1 HM.out hca, rest_next h2 HN.out hcb, by omega, by have := HO3.out; rw [if_neg (by omega)] at this; exact this, hown3, hnx3.drew⟩, by simp [lenV]; omega⟩
      · have e : t.length - j = 0 := by omega
        rw [e]
        clear ha hb
        obtain ⟨m, hm⟩ : ∃ m, m = s.length - i := ⟨_, rfl⟩
        rw [← hm]
        have hm0 : 0 < m := by omega
        have hm1 : m ≤ 4000000 := by omega
        clear hm hca e
        go_wp2
        go_ret
        have := HO.out
        rw [List.drop_of_length_le (show t.length ≤ j by omega), RS.andL_nil_right, List.append_nil] at this
        rw [← this]
        exact ⟨_, rfl, hown, hnx⟩
    · have e : s.length - i = 0 := by omega
      rw [e]
      clear ha hb hca e
      go_wp2
      go_ret
      have := HO.out
      rw [List.drop_of_length_le (show s.length ≤ i by omega), RS.andL_nil_left, List.append_nil] at this
      rw [← this]
      exact ⟨_, rfl, hown, hnx⟩
set_option maxHeartbeats 1000000 in
set_option maxRecDepth 100000 in
theorem and_nil1 (a b : Option Addr) (ca n cb : Nat) (w : World) :
    Calls Tryz.prog 70 #[.slice a 0 ca, .slice b n cb] w fun e w' => e = .returned (.slice none 0 0) ∧ w' = w := by
  go_enter Tryz.func70, Tryz.ntmps70
  go_wp2_with fail
  refine wp_loop_rounds 1 ?_
  rw [rounds_succ]
  go_wp2_with fail
  go_ret
  exact ⟨rfl, rfl⟩

set_option maxHeartbeats 1000000 in
set_option maxRecDepth 100000 in
theorem and_nil2 (a b : Option Addr) (n ca cb : Nat) (_hn : 0 < n) (_hn1 : n ≤ 4000000) (w : World) :
    Calls Tryz.prog 70 #[.slice a n ca, .slice b 0 cb] w fun e w' => e = .returned (.slice none 0 0) ∧ w' = w := by
  go_enter Tryz.func70, Tryz.ntmps70
  go_wp2_with fail
  refine wp_loop_rounds 1 ?_
  rw [rounds_succ]
  go_wp2_with fail
  go_ret
  exact ⟨rfl, rfl⟩

theorem and_any (va vb : Value) (s t : List RS.Rg) (hs : s.length ≤ 4000000) (ht : t.length ≤ 4000000) (w : World) (ha : RgAt w.heap.size w va s) (hb : RgAt w.heap.size w vb t) :
    Calls Tryz.prog 70 #[va, vb] w fun e w' => ∃ v, e = .returned v ∧ w'.ownsRow w.heap.size 46 2 v (RS.andL s t).length (flat2 (RS.andL s t)) ∧ Below w.heap.size w w' := by
  obtain ⟨ao, ca, rfl, hca, ha⟩ := ha
  obtain ⟨bo, cb, rfl, hcb, hb⟩ := hb
  by_cases h1 : s = []
  · subst h1
    refine (and_nil1 ao bo ca _ cb w).mono ?_
    rintro e w' ⟨rfl, rfl⟩
    rw [RS.andL_nil_left]
    exact ⟨_, rfl, World.ownsRow_nil _ _ _ _, Below.refl _ _⟩
  · by_cases h2 : t = []
    · subst h2
      refine (and_nil2 ao bo _ ca cb (List.length_pos_iff.2 h1) hs w).mono ?_
      rintro e w' ⟨rfl, rfl⟩
      rw [RS.andL_nil_right]
      exact ⟨_, rfl, World.ownsRow_nil _ _ _ _, Below.refl _ _⟩
    · obtain ⟨b1, o1, rfl, k1, c1⟩ := ha h1
      obtain ⟨b2, o2, rfl, k2, c2⟩ := hb h2
      exact and_some b1 o1 ca b2 o2 cb s t hs ht (List.length_pos_iff.2 h1) (List.length_pos_iff.2 h2) hca.1 hcb.1 w k1 k2 c1 c2

end Go.Proofs.YtjbdlihlcoldlaaGreatDoor
