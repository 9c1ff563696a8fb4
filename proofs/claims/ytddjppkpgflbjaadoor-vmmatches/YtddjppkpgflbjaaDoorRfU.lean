/- vm.Breaks whole; the document's Run whole; what the law VmMatches hands on. -/
import Derived.Test.YtddjppkpgflbjaaDoorRfT
import Derived.Test.YtddjppkpgflbjaaDoorRfE
namespace Go.Proofs.YtddjppkpgflbjaaDoor
open Go.RowKit Go.Shelf

theorem rightProg_parts {rs : List VM.Ru} (h : VM.rightProg rs = true) : ∀ r ∈ rs, VM.right r.before = true ∧ VM.right r.after = true := fun r hr => by
  unfold VM.rightProg at h
  rw [Bool.and_eq_true, List.all_eq_true] at h
  have := h.2 r hr
  rwa [Bool.and_eq_true] at this

theorem breaks_any (rv lv : Value) (el : Bool) (rs : List VM.Ru) (l : List Int) (w : World) (lo : Option Addr) (lcap : Nat) (hlv : lv = .slice lo l.length lcap) (hln : lo = none → lcap = 0) (hR : PairsAt w.heap.size w rv rs) (hl : PtsAt w.heap.size w lv l) (hn : l.length ≤ 500) (hrs : rs.length ≤ 100000) :
    Calls Tryd.prog 15 #[.agg #[rv, .bool el], lv] w fun e w' => BreaksSay (VM.rightProg rs) (VM.saysOf el l rs) l.length e w' ∧ Below w.heap.size w w' :=
  breaks_by rv lv el rs l (VM.saysOf el l rs) w hR hl (by omega) (by simp [VM.saysOf]) (fun hq W hW => by
    have hb : Below w.heap.size w W := ((Below.refl _ w).alloc (Nat.le_refl _) (.cells #[rv, .bool el] 28)).trans (hW.mono (by omega))
    exact says_any rv lv el rs l W lo lcap hlv hln (hR.below hb _ hb.size) (hl.below hb _ hb.size) hn hrs (rightProg_parts hq))

/-- What the document's Match answers. -/
def refAnswer (c : VM.Co) (l : List Int) : Value :=
  if VM.right c then .tuple #[.bool (VM.run c l [0]).1, .int .i64 ((VM.run c l [0]).2 : Nat), .int .i64 0] else .tuple #[.bool false, .int .i64 0, .int .i64 1]

theorem refMatch_any (sv iv lv : Value) (c : VM.Co) (l : List Int) (w : World) (F : Small w.heap.size w sv iv c) (hl : PtsAt w.heap.size w lv l) (hn : l.length ≤ 100000) :
    Calls Tryd.prog 7 #[.agg #[sv, iv], lv] w fun e w' => e = .returned (refAnswer c l) ∧ Below w.heap.size w w' := by
  unfold refAnswer
  cases h : VM.right c with
  | true => exact matchSays sv iv lv c l w F hl hn h
  | false => exact refMatch_wrong sv iv lv c w F h

/-- Points behind an empty list of one's own. -/
theorem append_pts (B : Nat) (v mv : Value) (m : List Int) (w : World) (ho : w.ownsRow B 3 1 v 0 []) (ao : Option Addr) (cap : Nat) (hmv : mv = .slice ao m.length cap) (hn : ao = none → cap = 0) (hm : PtsAt w.heap.size w mv m) (hf : m.length ≤ 500) (hB : B ≤ w.heap.size) :
    ∃ v' w', (Builtin.append_ #[29, 29] 29 #[v, mv]).run Tryd.prog w = .ok v' w' ∧ w'.ownsRow B 3 1 v' m.length (ptsV m) ∧ Below B w w' := by
  obtain ⟨i3, hi3, hz0, hz1, hz2⟩ := info_parts info3
  subst hmv
  cases ao with
  | none =>
    obtain rfl := hn rfl
    obtain ⟨ao', cap', h1, h2, -⟩ := hm
    cases h1
    obtain rfl : m = [] := List.eq_nil_of_length_eq_zero (by omega)
    obtain ⟨vo, vc, rfl⟩ := own_slice ho
    exact ⟨_, w, run_append_owned_none (P := Tryd.prog) (w := w) B 29 29 3 i3 1 Tryd.underlying29 hi3 _ _ _ ho, ho, Below.refl _ _⟩
  | some a =>
    have hnews : ∀ j u, (ptsV m)[j]? = some u → w.cell? (a.add j) = some u := by
      intro j u hj
      obtain ⟨ao', cap', h1, h2, h3⟩ := hm
      cases h1
      have hjl : j < m.length := by
        have := (List.getElem?_eq_some_iff.1 hj).1
        simpa [ptsV] using this
      obtain ⟨b, off, rfl', hb, hc⟩ := h3 (fun e => by rw [e] at hjl; simp at hjl)
      cases rfl'
      have h4 := hc j hjl
      rw [Addr.add_lit, h4]
      simpa [ptsV, hjl] using hj
    obtain ⟨v', w', hr, h2, h3, -⟩ := run_append_own (P := Tryd.prog) w B 29 29 3 i3 (.int .i64 0) 1 8 Tryd.underlying29 hi3 hz0 hz1 hz2 rfl (by decide) v 0 [] ho a m.length cap (ptsV m) (by simp [ptsV]) hnews (fun u hu => by
      obtain ⟨x, -, rfl⟩ := List.mem_map.1 hu
      rfl) (by unfold maxLen; omega) (by omega) hB
    refine ⟨v', w', hr, ?_, ⟨h3.os, h3.tape, h3.output, h3.size, fun k hk => h3.block k (by omega) (fun e => ?_)⟩⟩
    · simpa using h2
    · have := (own_block ho e.symm).1
      omega

/-- An empty list of one's own. -/
theorem own_none (W : World) (B : Nat) (hB : B ≤ W.heap.size) : (W.alloc (.cells #[] 3)).ownsRow B 3 1 (.slice (some ⟨W.heap.size, 0, none⟩) 0 0) 0 [] :=
  ⟨rfl, .inr ⟨W.heap.size, 0, #[], rfl, hB, heap_alloc_new _ _, Nat.le_refl _, by unfold maxLen; omega, rfl, rfl⟩⟩

end Go.Proofs.YtddjppkpgflbjaaDoor
