/- What VmMore's last call is handed. -/
import Derived.Test.YtddjppkpgflbjaaDoorVmM
import Derived.Laws.OwnMore
namespace Go.Proofs.YtddjppkpgflbjaaDoor
open Go.RowKit Go.Shelf

/-- An append whose run is known, as a step of a region that draws. -/
theorem step_append_run {P : Program} {ops : Array Oper} {o : Oper} {a : Act} {w : World} {K : Act → World → Prop} {Q : Exit → Act → World → Prop} {E : Prop}
    (hg : o.guard = none) (s x : Operand) (t : TypeId) (hop : o.op = Op.call { callee := Callee.builtin Builtin.append, args := #[s, x], argTypes := #[t, t] })
    (v u v' : Value) (w' : World) (hs : a.eval s = v) (hx : a.eval x = u) (hrun : (Builtin.append_ #[t, t] o.type #[v, u]).run P w = .ok v' w') (hK : K (a.put o.dst v') w') :
    if Region.wanted o (yielded ops a.tmps) = true then Oper.wp P o a w K Q else E := by
  have hw : Region.wanted o (yielded ops a.tmps) = true := by simp [Region.wanted, hg]
  rw [if_pos hw]
  unfold Oper.wp
  simp [execOp, hop, resolve, invoke, builtin, hs, hx, hrun, Result.andThen]
  exact hK

theorem pts_of_own {W : World} {B : Nat} {v : Value} {l : List Int} (h : W.ownsRow B 3 1 v l.length (ptsV l)) : PtsAt W.heap.size W v l := by
  have hk := h
  obtain ⟨h1, h2 | ⟨g, cap, cur, rfl, hg, hh, hn, hc, hs, ht⟩⟩ := h
  · obtain ⟨rfl, h0⟩ := h2
    obtain rfl : l = [] := List.eq_nil_of_length_eq_zero h0
    exact ⟨none, 0, rfl, Nat.le_refl _, fun h => absurd rfl h⟩
  · refine ⟨some ⟨g, 0, none⟩, cap, rfl, hn, fun _ => ⟨g, 0, rfl, lt_of_block hh, fun k h => ?_⟩⟩
    have c := hk.cells (g := g) rfl k (.int .i64 l[k]) (by simp [ptsV, h])
    simpa [Addr.add_lit] using c

/-- Points that came in. -/
structure Came (B : Nat) (w : World) (v : Value) (l : List Int) : Prop where
  at_ : PtsAt B w v l
  nil : ∃ ao cap, v = .slice ao l.length cap ∧ (ao = none → cap = 0)
  few : l.length ≤ 30

theorem Came.below {B : Nat} {w w' : World} {v : Value} {l : List Int} (h : Came B w v l) (hb : Below B w w') (B' : Nat) (hB : B ≤ B') : Came B' w' v l := ⟨h.at_.below hb _ hB, h.nil, h.few⟩

theorem clone_came (B : Nat) (lv : Value) (l : List Int) (w : World) (h : Came B w lv l) (hB : B ≤ w.heap.size) :
    Calls Tryd.prog 22 #[lv] w fun e w' => (∃ v, e = .returned v ∧ w'.ownsRow B 3 1 v l.length (ptsV l)) ∧ Below B w w' := by
  obtain ⟨ao, cap, hv, hn⟩ := h.nil
  refine (clone_any lv l w ao cap hv hn (h.at_.below (Below.refl _ _) _ hB) (by have := h.few; omega)).mono ?_
  rintro e w' ⟨⟨v, rfl, ho⟩, hb⟩
  exact ⟨⟨v, rfl, owns_mono ho hB⟩, hb.mono hB⟩

theorem append_came (B : Nat) (v mv : Value) (l m : List Int) (w : World) (ho : w.ownsRow B 3 1 v l.length (ptsV l)) (hl : l.length ≤ 30) (hm : Came B w mv m) (hB : B ≤ w.heap.size) :
    ∃ v' w', (Builtin.append_ #[29, 29] 29 #[v, mv]).run Tryd.prog w = .ok v' w' ∧ w'.ownsRow B 3 1 v' (l ++ m).length (ptsV (l ++ m)) ∧ Below B w w' := by
  obtain ⟨ao, cap, hmv, hn⟩ := hm.nil
  have hf := hm.few
  obtain ⟨i3, hi3, hz0, hz1, hz2⟩ := info_parts info3
  subst hmv
  cases ao with
  | none =>
    obtain rfl := hn rfl
    obtain ⟨ao', cap', h1, h2, -⟩ := hm.at_
    cases h1
    obtain rfl : m = [] := List.eq_nil_of_length_eq_zero (by omega)
    obtain ⟨vo, vc, rfl⟩ := own_slice ho
    refine ⟨_, w, run_append_owned_none (P := Tryd.prog) (w := w) B 29 29 3 i3 1 Tryd.underlying29 hi3 _ _ _ ho, ?_, Below.refl _ _⟩
    rw [List.append_nil]
    exact ho
  | some a =>
    have hnews : ∀ j u, (ptsV m)[j]? = some u → w.cell? (a.add j) = some u := by
      intro j u hj
      obtain ⟨ao', cap', h1, h2, h3⟩ := hm.at_
      cases h1
      have hjl : j < m.length := by
        have := (List.getElem?_eq_some_iff.1 hj).1
        simpa [ptsV] using this
      obtain ⟨b, off, rfl', hb, hc⟩ := h3 (fun e => by rw [e] at hjl; simp at hjl)
      cases rfl'
      have h4 := hc j hjl
      rw [Addr.add_lit, h4]
      simpa [ptsV, hjl] using hj
    obtain ⟨v', w', hr, h2, h3, -⟩ := run_append_own (P := Tryd.prog) w B 29 29 3 i3 (.int .i64 0) 1 8 Tryd.underlying29 hi3 hz0 hz1 hz2 rfl (by decide) v l.length (ptsV l) ho a m.length cap (ptsV m) (by simp [ptsV]) hnews (fun u hu => by
      obtain ⟨x, -, rfl⟩ := List.mem_map.1 hu
      rfl) (by unfold maxLen; omega) (by omega) hB
    refine ⟨v', w', hr, ?_, ⟨h3.os, h3.tape, h3.output, h3.size, fun k hk => h3.block k (by omega) (fun e => ?_)⟩⟩
    · rw [List.length_append, show ptsV (l ++ m) = ptsV l ++ ptsV m by simp [ptsV]]
      exact h2
    · have := (own_block ho e.symm).1
      omega

/-- What VmMore holds from its first look on. -/
def Held (w : World) (sv iv : Value) (W : World) : Prop :=
  W.cell? ⟨w.heap.size, 0, none⟩ = some sv ∧ W.cell? ⟨w.heap.size, 1, none⟩ = some iv ∧ Below w.heap.size w W ∧ w.heap.size < W.heap.size

theorem Held.start (w : World) (sv iv : Value) : Held w sv iv (w.alloc (.cells #[sv, iv] 25)) := ⟨by simp, by simp, (Below.refl _ w).alloc (Nat.le_refl _) _, by simp⟩

theorem Held.keep {w : World} {sv iv : Value} {W W' : World} (h : Held w sv iv W) (hb : Below (w.heap.size + 1) W W') : Held w sv iv W' := by
  obtain ⟨h1, h2, h3, h4⟩ := h
  have := hb.size
  exact ⟨(hb.cell (p := ⟨w.heap.size, 0, none⟩) (Nat.lt_succ_self _)).trans h1, (hb.cell (p := ⟨w.heap.size, 1, none⟩) (Nat.lt_succ_self _)).trans h2, h3.trans (hb.mono (by omega)), by omega⟩

theorem Held.call {w : World} {sv iv : Value} {W W' : World} (h : Held w sv iv W) (hb : Below W.heap.size W W') : Held w sv iv W' := h.keep (hb.mono h.2.2.2)

theorem Held.open_ {w : World} {sv iv : Value} {W : World} (h : Held w sv iv W) : W.cell? ⟨w.heap.size, 0, none⟩ = some sv ∧ W.cell? ⟨w.heap.size, 1, none⟩ = some iv ∧ Below w.heap.size w W ∧ w.heap.size < W.heap.size := h

section
variable {w : World} {sv iv : Value} {W : World} {c : VM.Co} {l m : List Int} {lv mv v : Value}

theorem clone_held (h : Held w sv iv W) (hl : Came w.heap.size w lv l) : Calls Tryd.prog 22 #[lv] W fun e W' => (∃ v, e = .returned v ∧ W'.ownsRow (w.heap.size + 1) 3 1 v l.length (ptsV l)) ∧ Held w sv iv W' := by
  refine (clone_came (w.heap.size + 1) lv l W ((hl.below h.2.2.1 _ (Nat.le_refl _)).below (Below.refl _ _) _ (Nat.le_succ _)) h.2.2.2).mono ?_
  rintro e W' ⟨h1, hb⟩
  exact ⟨h1, h.keep hb⟩

theorem append_held (h : Held w sv iv W) (ho : W.ownsRow (w.heap.size + 1) 3 1 v l.length (ptsV l)) (hl : l.length ≤ 30) (hm : Came w.heap.size w mv m) :
    ∃ v' W', (Builtin.append_ #[29, 29] 29 #[v, mv]).run Tryd.prog W = .ok v' W' ∧ W'.ownsRow (w.heap.size + 1) 3 1 v' (l ++ m).length (ptsV (l ++ m)) ∧ Held w sv iv W' := by
  obtain ⟨v', W', h1, h2, h3⟩ := append_came (w.heap.size + 1) v mv l m W ho hl ((hm.below h.2.2.1 _ (Nat.le_refl _)).below (Below.refl _ _) _ (Nat.le_succ _)) h.2.2.2
  exact ⟨v', W', h1, h2, h.keep h3⟩

theorem match_held (h : Held w sv iv W) (ho : W.ownsRow (w.heap.size + 1) 3 1 v l.length (ptsV l)) (hl : l.length ≤ 100000) (hS : Small W.heap.size W sv iv c) :
    Calls Tryd.prog 8 #[.agg #[sv, iv], v] W fun e W' => e = .returned (answer c l) ∧ Held w sv iv W' := by
  refine (match_any sv iv v c l W hS (pts_of_own ho) hl).mono ?_
  rintro e W' ⟨h1, hb⟩
  exact ⟨h1, h.call hb⟩

end

end Go.Proofs.YtddjppkpgflbjaaDoor
