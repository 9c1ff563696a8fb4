/- Code and lists of points that came in, opened. -/
import Derived.Test.YtddjppkpgflbjaaDoorVmC
import Derived.ProofKit
import Derived.OpenShut
import Derived.Deep.DeepHandedRow
import Derived.Deep.SlicePairs
import Derived.Deep.Strs
namespace Go.Proofs.YtddjppkpgflbjaaDoor
open Go.ChangeShapes Go.WideShapes Go.ChangeAt Go.RowKit

theorem own : ownKnob Tryd.prog.godebug = none := by kernel_rfl
theorem laidOut : laidOutB Tryd.prog = true := by kernel_rfl
theorem cells3' : Tryd.prog.cellsOf 3 = 1 := by kernel_rfl
theorem cells22' : Tryd.prog.cellsOf 22 = 1 := by kernel_rfl
theorem cells23' : Tryd.prog.cellsOf 23 = 1 := by kernel_rfl
theorem cells25' : Tryd.prog.cellsOf 25 = 2 := by kernel_rfl
theorem cells50' : Tryd.prog.cellsOf 50 = 3 := by kernel_rfl
theorem cells55' : Tryd.prog.cellsOf 55 = 1 := by kernel_rfl
theorem cells78' : Tryd.prog.cellsOf 78 = 2 := by kernel_rfl

/-- The number in a value. -/
def numIn : Value → Int
  | .int _ n => n
  | _ => 0

section
variable {H : Type} {enc : TypeId × Value → H} {W : World}

set_option maxRecDepth 100000 in
theorem open_set {fuel : Nat} {v : Value} {x : DataW H × List MemPlace} (hf : DataW.trod enc Tryd.prog W 0 (fun _ => true) true fuel 55 [v] = some x) (hlt : ∀ p ∈ x.2, p.block < W.heap.size) : ∃ s, RgAt W.heap.size W v s := by
  rcases Deep.open_slice_pairs Tryd.underlying55 Tryd.underlying78 cells78' rfl rfl cells3' cells3' hf with ⟨hcs, hx⟩ | ⟨a, len, m, m', n, V0, V1, D0, D1, P0, P1, hcs, _, hl, hm, hmm, hx, hcell⟩
  · simp at hcs
    subst hcs
    exact ⟨[], none, 0, rfl, ⟨Nat.le_refl _, fun _ => rfl⟩, fun h => absurd rfl h⟩
  · simp at hcs
    subst hcs
    subst hx
    simp only [if_true] at hmm
    subst hmm
    have hlen : ((List.range len).map fun i => (numIn (V0 i), numIn (V1 i))).length = len := by simp
    refine ⟨(List.range len).map fun i => (numIn (V0 i), numIn (V1 i)), some a, m', by rw [hlen], ⟨by rw [hlen]; exact hl, fun h => by cases h⟩, fun hne => ?_⟩
    have h0 : 0 < len := by rw [← hlen]; exact List.length_pos_iff.2 hne
    obtain ⟨b, off, spot⟩ := a
    have hspot : spot = none := by simpa [Addr.add] using World.cell?_spot (hcell 0 (by omega)).1
    subst hspot
    refine ⟨b, off, rfl, hlt (.cell b off) (List.mem_append.2 (.inl (MemPlace.mem_row.2 ⟨0, by omega, by simp⟩))), fun k hk => ?_⟩
    have hk' : k < len := by rw [hlen] at hk; exact hk
    obtain ⟨c0, c1, t0, t1⟩ := hcell k (by omega)
    obtain ⟨n0, e0, _, _⟩ := DataW.trod_int Tryd.underlying3 t0
    obtain ⟨n1, e1, _, _⟩ := DataW.trod_int Tryd.underlying3 t1
    simp at e0 e1
    rw [e0, add_plain] at c0
    rw [e1, add_plain] at c1
    rw [← Nat.add_assoc] at c1
    simp only [List.getElem_map, List.getElem_range, e0, e1, numIn]
    exact ⟨c0, c1⟩

set_option maxRecDepth 100000 in
theorem open_sets {fuel : Nat} {v : Value} {x : DataW H × List MemPlace} (hf : DataW.trod enc Tryd.prog W 0 (fun _ => true) true fuel 22 [v] = some x) (hlt : ∀ p ∈ x.2, p.block < W.heap.size) : ∃ ss, SetsAt W.heap.size W v ss := by
  rcases Deep.open_slice1 Tryd.underlying22 cells55' hf with ⟨hcs, hx⟩ | ⟨a, len, cap, m, n, V, D, Pl, hcs, _, hl, hm, hmm, hx, hcell⟩
  · simp at hcs
    subst hcs
    exact ⟨[], none, 0, rfl, Nat.le_refl _, fun h => absurd rfl h⟩
  · simp at hcs
    subst hcs
    subst hx
    simp only [if_true] at hmm
    subst hmm
    obtain ⟨S, hS⟩ := Deep.choose_lt (n := m) (p := fun i s => RgAt W.heap.size W (V i) s) (fun i hi => open_set (hcell i hi).2 (fun p hp => hlt p (List.mem_append.2 (.inr (List.mem_flatMap.2 ⟨i, List.mem_range.2 hi, hp⟩)))))
    have hlen : ((List.range len).map S).length = len := by simp
    refine ⟨(List.range len).map S, some a, m, by rw [hlen], by rw [hlen]; exact hl, fun hne => ?_⟩
    have h0 : 0 < len := by rw [← hlen]; exact List.length_pos_iff.2 hne
    obtain ⟨b, off, spot⟩ := a
    have hspot : spot = none := by simpa [Addr.add] using World.cell?_spot (hcell 0 (by omega)).1
    subst hspot
    refine ⟨b, off, rfl, hlt (.cell b off) (List.mem_append.2 (.inl (MemPlace.mem_row.2 ⟨0, by omega, by simp⟩))), fun k hk => ?_⟩
    have hk' : k < len := by rw [hlen] at hk; exact hk
    have c0 := (hcell k (by omega)).1
    rw [add_plain] at c0
    simp only [List.getElem_map, List.getElem_range]
    exact ⟨V k, c0, hS k (by omega)⟩

set_option maxRecDepth 100000 in
theorem open_ins {fuel : Nat} {v : Value} {x : DataW H × List MemPlace} (hf : DataW.trod enc Tryd.prog W 0 (fun _ => true) true fuel 23 [v] = some x) (hlt : ∀ p ∈ x.2, p.block < W.heap.size) : ∃ is, InsAt W.heap.size W v is := by
  rcases Deep.open_slice Tryd.underlying23 hf with ⟨hcs, hx⟩ | ⟨a, len, cap, m, n, D, Pl, hcs, _, hl, hm, hmm, hx, hcell⟩
  · simp at hcs
    subst hcs
    exact ⟨[], none, 0, rfl, Nat.le_refl _, fun h => absurd rfl h⟩
  · simp at hcs
    subst hcs
    subst hx
    simp only [if_true] at hmm
    subst hmm
    rw [cells50'] at hcell
    haveI : Inhabited VM.In := ⟨⟨0, 0, 0⟩⟩
    obtain ⟨S, hS⟩ := Deep.choose_lt (n := m) (p := fun i (s : VM.In) => W.cell? ((a.add (i * 3)).add 0) = some (.int .i64 s.op) ∧ W.cell? ((a.add (i * 3)).add 1) = some (.int .i64 s.a) ∧ W.cell? ((a.add (i * 3)).add 2) = some (.int .i64 s.b)) (fun i hi => by
      obtain ⟨cs', h1, h2⟩ := hcell i hi
      obtain ⟨_, hlen, hc⟩ := World.cells?_some h1
      obtain ⟨y0, y1, y2, k, _, _, g0, g1, g2⟩ := Deep.trod_struct3 Tryd.underlying50 h2
      match cs', hlen with
      | [v0, v1, v2], _ =>
        simp only [List.drop_zero, List.drop_succ_cons, cells3', List.take_succ_cons, List.take_zero] at g0 g1 g2
        obtain ⟨n0, e0, _, _⟩ := DataW.trod_int Tryd.underlying3 g0
        obtain ⟨n1, e1, _, _⟩ := DataW.trod_int Tryd.underlying3 g1
        obtain ⟨n2, e2, _, _⟩ := DataW.trod_int Tryd.underlying3 g2
        simp at e0 e1 e2
        subst e0 e1 e2
        have c0 := hc 0 (by omega)
        have c1 := hc 1 (by omega)
        have c2 := hc 2 (by omega)
        exact ⟨⟨n0, n1, n2⟩, by simpa using c0, by simpa using c1, by simpa using c2⟩)
    have hlen : ((List.range len).map S).length = len := by simp
    refine ⟨(List.range len).map S, some a, m, by rw [hlen], by rw [hlen]; exact hl, fun hne => ?_⟩
    have h0 : 0 < len := by rw [← hlen]; exact List.length_pos_iff.2 hne
    obtain ⟨b, off, spot⟩ := a
    have hspot : spot = none := by simpa [Addr.add] using World.cell?_spot (hS 0 (by omega)).1
    subst hspot
    refine ⟨b, off, rfl, hlt (.cell b off) (List.mem_append.2 (.inl (MemPlace.mem_row.2 ⟨0, by rw [cells50']; omega, by simp⟩))), fun k hk => ?_⟩
    have hk' : k < len := by rw [hlen] at hk; exact hk
    obtain ⟨c0, c1, c2⟩ := hS k (by omega)
    simp only [add_plain, Nat.add_zero] at c0 c1 c2
    simp only [List.getElem_map, List.getElem_range]
    exact ⟨c0, c1, c2⟩

set_option maxRecDepth 100000 in
theorem open_pts {base : Nat} {v : Value} {d : DataW H} {ps : List MemPlace}
    (hval : Value.okWide Tryd.prog W .any base 29 v) (h : DataW.Trod enc Tryd.prog W 0 (fun _ => true) true 29 v d ps) (hlt : ∀ x ∈ ps, x.block < W.heap.size) :
    ∃ (ao : Option Addr) (cap : Nat) (l : List Int), v = .slice ao l.length cap ∧ l.length ≤ maxLen ∧ (ao = none → cap = 0) ∧ PtsAt W.heap.size W v l := by
  obtain ⟨a0, len, cap, rfl⟩ := okWide_slice Tryd.underlying29 hval
  obtain ⟨fuel, hf⟩ := h
  rcases open_ints Tryd.underlying29 Tryd.underlying3 cells3' hf with ⟨hcs, hx⟩ | ⟨a, len', cap', zs, hcs, _, hl, hm, hz, hx, hcell, hwz⟩
  · simp [Value.cells] at hcs
    obtain ⟨rfl, rfl, rfl⟩ := hcs
    exact ⟨none, 0, [], rfl, Nat.zero_le _, fun _ => rfl, ⟨none, 0, rfl, Nat.le_refl _, fun h => absurd rfl h⟩⟩
  · simp [Value.cells] at hcs
    obtain ⟨rfl, rfl, rfl⟩ := hcs
    simp only [Prod.mk.injEq] at hx
    obtain ⟨rfl, rfl⟩ := hx
    simp only [if_true] at hz
    have hlen : (zs.take len).length = len := by rw [List.length_take]; omega
    refine ⟨some a, cap, zs.take len, by rw [hlen], by rw [hlen]; exact Nat.le_trans hl hm, (fun h => by cases h), some a, cap, by rw [hlen], by rw [hlen]; exact hl, fun hne => ?_⟩
    have h0 : 0 < len := by rw [← hlen]; exact List.length_pos_iff.2 hne
    obtain ⟨b, off, spot⟩ := a
    have hspot : spot = none := by simpa [Addr.add] using World.cell?_spot (hcell 0 (by omega))
    subst hspot
    refine ⟨b, off, rfl, hlt (.cell b off) (MemPlace.mem_row.2 ⟨0, by omega, by simp⟩), fun j hj => ?_⟩
    have hj' : j < zs.length := by rw [hlen] at hj; omega
    rw [← add_plain, hcell j hj']
    simp [List.getElem?_eq_getElem hj']

set_option maxRecDepth 100000 in
theorem open_code {base : Nat} {v : Value} {d : DataW H} {ps : List MemPlace}
    (hval : Value.okWide Tryd.prog W .any base 25 v) (h : DataW.Trod enc Tryd.prog W 0 (fun _ => true) true 25 v d ps) (hlt : ∀ x ∈ ps, x.block < W.heap.size) :
    ∃ (sv iv : Value) (c : VM.Co), v = .agg #[sv, iv] ∧ CoAt W.heap.size W sv iv c := by
  obtain ⟨cs, rfl, hsz⟩ := okWide_struct Tryd.underlying25 hval
  rw [cells25'] at hsz
  obtain ⟨fuel, hf⟩ := h
  obtain ⟨y0, y1, n, hx, _, g0, g1⟩ := trod_struct2 Tryd.underlying25 hf
  obtain ⟨sv, iv, rfl⟩ : ∃ sv iv, cs = #[sv, iv] := by
    match cs, hsz with
    | ⟨[a, b]⟩, _ => exact ⟨a, b, rfl⟩
  simp only [Prod.mk.injEq] at hx
  obtain ⟨rfl, rfl⟩ := hx
  simp only [Value.cells, List.drop_zero, List.drop_succ_cons, cells22', cells23', List.take_succ_cons, List.take_zero] at g0 g1
  obtain ⟨ss, hss⟩ := open_sets g0 (fun p hp => hlt p (List.mem_append.2 (.inl hp)))
  obtain ⟨is, his⟩ := open_ins g1 (fun p hp => hlt p (List.mem_append.2 (.inr hp)))
  exact ⟨sv, iv, ⟨ss, is⟩, rfl, hss, his⟩

end

end Go.Proofs.YtddjppkpgflbjaaDoor
