/- The contract of slices.Clone at lists of points. -/
import Derived.Test.YtddjppkpgflbjaaDoorVmL
import Derived.Test.YtddjppkpgflbjaaDoorIsA
namespace Go.Proofs.YtddjppkpgflbjaaDoor
open Go.RowKit Go.Shelf

/-- Points as cells. -/
def ptsV (l : List Int) : List Value := l.map fun x => .int .i64 x

theorem nil_yes (w : World) : (binOp BinOp.eql 29 (.slice none 0 0) (.slice none 0 0)).run Tryd.prog w = .ok (.bool true) w := by kernel_rfl
theorem nil_no (a : Addr) (n cap : Nat) (w : World) : (binOp BinOp.eql 29 (.slice (some a) n cap) (.slice none 0 0)).run Tryd.prog w = .ok (.bool false) w := by kernel_rfl

set_option maxHeartbeats 2000000 in
set_option maxRecDepth 100000 in
theorem clone_any (lv : Value) (l : List Int) (w : World) (ao : Option Addr) (cap : Nat) (hv : lv = .slice ao l.length cap) (hn : ao = none → cap = 0) (hl : PtsAt w.heap.size w lv l) (hll : l.length ≤ 100000) :
    Calls Tryd.prog 22 #[lv] w fun e w' => (∃ v, e = .returned v ∧ w'.ownsRow w.heap.size 3 1 v l.length (ptsV l)) ∧ Below w.heap.size w w' := by
  cases ao with
  | none =>
    obtain rfl := hn rfl
    obtain ⟨ao', cap', h1, h2, -⟩ := hl
    rw [hv] at h1
    cases h1
    obtain rfl : l = [] := List.eq_nil_of_length_eq_zero (by omega)
    subst hv
    have hq := nil_yes w
    go_enter Tryd.func22, Tryd.ntmps22
    go_wp2_with fail
    go_ret
    exact ⟨⟨_, rfl, by simp [ptsV], .inl ⟨rfl, rfl⟩⟩, Below.refl _ _⟩
  | some a =>
    subst hv
    have hq := nil_no a l.length cap w
    obtain ⟨i3, hi3, hz0, hz1, hz2⟩ := info_parts info3
    have hb0 : Below w.heap.size w (w.alloc (.cells #[] 3)) := (Below.refl _ w).alloc (Nat.le_refl _) _
    have hown : (w.alloc (.cells #[] 3)).ownsRow w.heap.size 3 1 (.slice (some ⟨w.heap.size, 0, none⟩) 0 0) 0 [] := by
      refine ⟨rfl, .inr ⟨w.heap.size, 0, #[], rfl, Nat.le_refl _, heap_alloc_new _ _, Nat.le_refl _, by unfold maxLen; omega, rfl, rfl⟩⟩
    have hnews : ∀ j u, (ptsV l)[j]? = some u → (w.alloc (.cells #[] 3)).cell? (a.add j) = some u := by
      intro j u hj
      obtain ⟨ao', cap', h1, h2, h3⟩ := hl
      cases h1
      have hjl : j < l.length := by
        have := (List.getElem?_eq_some_iff.1 hj).1
        simpa [ptsV] using this
      obtain ⟨b, off, rfl', hb, hc⟩ := h3 (fun e => by rw [e] at hjl; simp at hjl)
      cases rfl'
      have h4 := hc j hjl
      rw [Addr.add_lit, hb0.cell (by exact hb), h4]
      simpa [ptsV, hjl] using hj
    obtain ⟨v', w', hr, h2, h3, -⟩ := run_append_own (P := Tryd.prog) (w.alloc (.cells #[] 3)) w.heap.size 29 29 3 i3 (.int .i64 0) 1 8 Tryd.underlying29 hi3 hz0 hz1 hz2 rfl (by decide) (.slice (some ⟨w.heap.size, 0, none⟩) 0 0) 0 [] hown a l.length cap (ptsV l) (by simp [ptsV]) hnews (fun u hu => by
      obtain ⟨x, -, rfl⟩ := List.mem_map.1 hu
      rfl) (by unfold maxLen; omega) (by omega) hb0.size
    rw [Nat.zero_add, List.nil_append] at h2
    have hbw : Below w.heap.size w w' := hb0.trans ⟨h3.os, h3.tape, h3.output, h3.size, fun k hk => h3.block k (by have := hb0.size; omega) (fun e => by
      have e' : w.heap.size = k := Option.some.inj e.symm
      omega)⟩
    have HR : Hid ((Builtin.append_ #[29, 29] 29 #[.slice (some ⟨w.heap.size, 0, none⟩) 0 0, .slice (some a) l.length cap]).run Tryd.prog (w.alloc (.cells #[] 3)) = .ok v' w') := hr
    have HO : Hid (w'.ownsRow w.heap.size 3 1 v' l.length (ptsV l)) := h2
    have HB : Hid (Below w.heap.size w w') := hbw
    clear hr h2 h3 hown hnews hl hbw hb0
    go_enter Tryd.func22, Tryd.ntmps22
    go_wp2_with (at_builtin; refine Lib.wpList_append_run _ rfl _ _ _ _ rfl _ _ rfl rfl _ _ HR.out ?_)
    go_wp2_with fail
    go_ret
    exact ⟨⟨_, rfl, HO.out⟩, HB.out⟩

end Go.Proofs.YtddjppkpgflbjaaDoor
