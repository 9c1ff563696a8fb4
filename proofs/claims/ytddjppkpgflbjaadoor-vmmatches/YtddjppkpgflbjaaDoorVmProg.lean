/- A program that came in, opened. -/
import Derived.Test.YtddjppkpgflbjaaDoorVmArg
import Derived.Test.YtddjppkpgflbjaaDoorRfE
namespace Go.Proofs.YtddjppkpgflbjaaDoor
open Go.ChangeShapes Go.WideShapes Go.ChangeAt Go.RowKit

theorem cells57' : Tryd.prog.cellsOf 57 = 5 := by kernel_rfl
theorem cells26' : Tryd.prog.cellsOf 26 = 1 := by kernel_rfl
theorem cells28' : Tryd.prog.cellsOf 28 = 2 := by kernel_rfl
theorem cells4' : Tryd.prog.cellsOf 4 = 1 := by kernel_rfl

section
variable {H : Type} {enc : TypeId × Value → H} {W : World}

theorem open_code2 {fuel : Nat} {sv iv : Value} {x : DataW H × List MemPlace} (hf : DataW.trod enc Tryd.prog W 0 (fun _ => true) true fuel 25 [sv, iv] = some x) (hlt : ∀ p ∈ x.2, p.block < W.heap.size) : ∃ c : VM.Co, CoAt W.heap.size W sv iv c := by
  obtain ⟨y0, y1, n, hx, _, g0, g1⟩ := trod_struct2 Tryd.underlying25 hf
  subst hx
  simp only [List.drop_zero, List.drop_succ_cons, cells22', cells23', List.take_succ_cons, List.take_zero] at g0 g1
  obtain ⟨ss, hss⟩ := open_sets g0 (fun p hp => hlt p (List.mem_append.2 (.inl hp)))
  obtain ⟨is, his⟩ := open_ins g1 (fun p hp => hlt p (List.mem_append.2 (.inr hp)))
  exact ⟨⟨ss, is⟩, hss, his⟩

set_option maxRecDepth 100000 in
theorem open_pairs {fuel : Nat} {v : Value} {x : DataW H × List MemPlace} (hf : DataW.trod enc Tryd.prog W 0 (fun _ => true) true fuel 26 [v] = some x) (hlt : ∀ p ∈ x.2, p.block < W.heap.size) : ∃ rs, PairsCo W.heap.size W v rs := by
  rcases Deep.open_slice Tryd.underlying26 hf with ⟨hcs, hx⟩ | ⟨a, len, cap, m, n, D, Pl, hcs, _, hl, hm, hmm, hx, hcell⟩
  · simp at hcs
    subst hcs
    exact ⟨[], none, 0, rfl, Nat.le_refl _, fun h => absurd rfl h⟩
  · simp at hcs
    subst hcs
    subst hx
    simp only [if_true] at hmm
    subst hmm
    rw [cells57'] at hcell
    haveI : Inhabited VM.Ru := ⟨⟨false, ⟨[], []⟩, ⟨[], []⟩⟩⟩
    obtain ⟨S, hS⟩ := Deep.choose_lt (n := m) (p := fun i (s : VM.Ru) => ∃ sv iv sv2 iv2, (W.cell? ((a.add (i * 5)).add 0) = some (.bool s.brk) ∧ W.cell? ((a.add (i * 5)).add 1) = some sv ∧ W.cell? ((a.add (i * 5)).add 2) = some iv ∧ W.cell? ((a.add (i * 5)).add 3) = some sv2 ∧ W.cell? ((a.add (i * 5)).add 4) = some iv2) ∧ PairCo W.heap.size W s sv iv sv2 iv2) (fun i hi => by
      obtain ⟨cs', h1, h2⟩ := hcell i hi
      obtain ⟨_, hlen, hc⟩ := World.cells?_some h1
      have hpl : ∀ p ∈ Pl i, p.block < W.heap.size := fun p hp => hlt p (List.mem_append.2 (.inr (List.mem_flatMap.2 ⟨i, List.mem_range.2 hi, hp⟩)))
      obtain ⟨y0, y1, y2, k, hxx, _, g0, g1, g2⟩ := Deep.trod_struct3 Tryd.underlying57 h2
      have hPl : Pl i = y0.2 ++ (y1.2 ++ y2.2) := congrArg Prod.snd hxx
      rw [hPl] at hpl
      match cs', hlen with
      | [v0, v1, v2, v3, v4], _ =>
        simp only [List.drop_zero, List.drop_succ_cons, cells4', cells25', List.take_succ_cons, List.take_zero] at g0 g1 g2
        obtain ⟨b0, e0, _⟩ := DataW.trod_bool Tryd.underlying4 g0
        simp at e0
        subst e0
        obtain ⟨cb, hcb⟩ := open_code2 g1 (fun p hp => hpl p (List.mem_append.2 (.inr (List.mem_append.2 (.inl hp)))))
        obtain ⟨ca, hca⟩ := open_code2 g2 (fun p hp => hpl p (List.mem_append.2 (.inr (List.mem_append.2 (.inr hp)))))
        have c0 := hc 0 (by omega)
        have c1 := hc 1 (by omega)
        have c2 := hc 2 (by omega)
        have c3 := hc 3 (by omega)
        have c4 := hc 4 (by omega)
        exact ⟨⟨b0, cb, ca⟩, v1, v2, v3, v4, ⟨by simpa using c0, by simpa using c1, by simpa using c2, by simpa using c3, by simpa using c4⟩, ⟨hcb, hca⟩⟩)
    have hlen : ((List.range len).map S).length = len := by simp
    refine ⟨(List.range len).map S, some a, m, by rw [hlen], by rw [hlen]; exact hl, fun hne => ?_⟩
    have h0 : 0 < len := by rw [← hlen]; exact List.length_pos_iff.2 hne
    obtain ⟨b, off, spot⟩ := a
    have hspot : spot = none := by
      obtain ⟨_, _, _, _, h, _⟩ := hS 0 (by omega)
      simpa [Addr.add] using World.cell?_spot h.1
    subst hspot
    refine ⟨b, off, rfl, hlt (.cell b off) (List.mem_append.2 (.inl (MemPlace.mem_row.2 ⟨0, by rw [cells57']; omega, by simp⟩))), fun k hk => ?_⟩
    have hk' : k < len := by rw [hlen] at hk; exact hk
    obtain ⟨sv, iv, sv2, iv2, ⟨c0, c1, c2, c3, c4⟩, hp⟩ := hS k (by omega)
    simp only [add_plain, Nat.add_zero] at c0 c1 c2 c3 c4
    simp only [List.getElem_map, List.getElem_range]
    exact ⟨sv, iv, sv2, iv2, ⟨c0, c1, c2, c3, c4⟩, hp⟩

set_option maxRecDepth 100000 in
theorem open_prog {base : Nat} {v : Value} {d : DataW H} {ps : List MemPlace}
    (hval : Value.okWide Tryd.prog W .any base 28 v) (h : DataW.Trod enc Tryd.prog W 0 (fun _ => true) true 28 v d ps) (hlt : ∀ x ∈ ps, x.block < W.heap.size) :
    ∃ (rv : Value) (el : Bool) (rs : List VM.Ru), v = .agg #[rv, .bool el] ∧ PairsCo W.heap.size W rv rs := by
  obtain ⟨cs, rfl, hsz⟩ := okWide_struct Tryd.underlying28 hval
  rw [cells28'] at hsz
  obtain ⟨fuel, hf⟩ := h
  obtain ⟨y0, y1, n, hx, _, g0, g1⟩ := trod_struct2 Tryd.underlying28 hf
  obtain ⟨rv, ev, rfl⟩ : ∃ rv ev, cs = #[rv, ev] := by
    match cs, hsz with
    | ⟨[a, b]⟩, _ => exact ⟨a, b, rfl⟩
  simp only [Prod.mk.injEq] at hx
  obtain ⟨rfl, rfl⟩ := hx
  simp only [Value.cells, List.drop_zero, List.drop_succ_cons, cells26', cells4', List.take_succ_cons, List.take_zero] at g0 g1
  obtain ⟨rs, hrs⟩ := open_pairs g0 (fun p hp => hlt p (List.mem_append.2 (.inl hp)))
  obtain ⟨el, e1, _⟩ := DataW.trod_bool Tryd.underlying4 g1
  simp at e1
  subst e1
  exact ⟨rv, el, rs, rfl, hrs⟩

end

end Go.Proofs.YtddjppkpgflbjaaDoor
