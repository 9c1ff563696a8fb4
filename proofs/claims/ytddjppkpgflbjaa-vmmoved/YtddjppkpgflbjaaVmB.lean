/- The contracts of noneMet and forget. -/
import Derived.Test.YtddjppkpgflbjaaVmA
import Derived.Deep.OwnRows
namespace Go.Proofs.Ytddjppkpgflbjaa
open Go.RowKit Go.Shelf

theorem cell_lt {w : World} {a : Addr} {v : Value} (h : w.cell? a = some v) : a.block < w.heap.size := by
  rcases Nat.lt_or_ge a.block w.heap.size with h1 | h1
  · exact h1
  · simp [World.cell?, Array.getElem?_eq_none h1] at h

theorem info4 : (Try.prog.info? 4).map (fun i => (i.zero, i.size, i.bytes)) = some (some (.bool false), 1, 1) := by kernel_rfl

theorem flags_nil (n : Nat) : madeCells #[.bool false] n = (flags n []).toArray := by
  apply Array.ext'
  unfold madeCells flags
  apply List.ext_getElem
  · simp
  · intro i h1 h2
    simp [Nat.mod_one]

set_option maxHeartbeats 1000000 in
set_option maxRecDepth 100000 in
theorem noneMet_any (n : Nat) (w : World) (hn : n ≤ 100000) :
    Calls Try.prog 22 #[.int .i64 n] w fun e w' => e = .returned (.pointer (some ⟨w.heap.size + 1, 0, none⟩)) ∧ w' = (w.alloc (.cells (flags n []).toArray 4)).alloc (.cells #[.slice none 0 0, .slice (some ⟨w.heap.size, 0, none⟩) n n] 57) := by
  have hmk := run_make_row' (P := Try.prog) 55 4 (.bool false) 1 Try.underlying55 info4 rfl .i64 .i64 n (by omega) (by omega) w
  rw [flags_nil] at hmk
  go_enter Try.func22, Try.ntmps22
  go_wp2_with fail
  go_ret
  exact ⟨rfl, rfl⟩

set_option maxHeartbeats 1000000 in
set_option maxRecDepth 100000 in
theorem forget_any (B m hb : Nat) (v : Value) (n : Nat) (o : List Nat) (w : World) (hM : MetAt B w m hb v n o) (hn : n ≤ 100000) (ho : VM.Met n o) :
    Calls Try.prog 27 #[.pointer (some ⟨m, 0, none⟩)] w fun e w' => e = .returned (.tuple #[]) ∧ ∃ v', MetAt B w' m hb v' n [] ∧ But (fun k => k = m ∨ k = hb) w w' ∧ v'.ownBlock = v.ownBlock := by
  have hmh : m ≠ hb := ne_of_types hM.struct_ hM.has (by decide)
  have hol := ho.length
  have hvm : ∀ g, v.ownBlock = some g → g ≠ m ∧ g ≠ hb := fun g hg => by
    obtain ⟨_, cur, hh⟩ := own_block hM.order hg
    exact ⟨ne_of_types hh hM.struct_ (by decide), ne_of_types hh hM.has (by decide)⟩
  have c0 : w.cell? ⟨m, 0, none⟩ = some v := cell_of_row w m 0 _ _ _ hM.struct_
  have c1 : w.cell? ⟨m, 1, none⟩ = some (.slice (some ⟨hb, 0, none⟩) n n) := cell_of_row w m 1 _ _ _ hM.struct_
  obtain ⟨ao, cp, rfl⟩ := own_slice hM.order
  have HM : Hid (MetAt B w m hb (.slice ao o.length cp) n o) := hM
  have HV : Hid (∀ g, (Value.slice ao o.length cp).ownBlock = some g → g ≠ m ∧ g ≠ hb) := hvm
  have HO : Hid (VM.Met n o) := ho
  clear hM hvm ho
  obtain ⟨L, hL⟩ : ∃ L, L = o.length := ⟨_, rfl⟩
  have HL : Hid (L = o.length) := hL
  rw [← hL] at c0 hol
  clear hL
  go_enter Try.func27, Try.ntmps27
  go_wp2_with fail
  go_loopw [9] (fun i wr => ∃ k : Nat, k ≤ L ∧ i = .int .i64 k ∧ But (fun j => j = hb) w wr ∧ wr.heap[hb]? = some (.cells (flags n (o.drop k)).toArray 4 (0, 0))) (fun i _ => L - (intOf i).toNat)
  case atStart => exact ⟨0, Nat.zero_le _, rfl, But.refl _ _, HM.out.has⟩
  case round =>
    obtain ⟨k, hk, rfl, hb1, hh1⟩ := hrel
    have c1' : _ := (World.cell?_of_block (a := ⟨m, 1, none⟩) (hb1.block m (lt_of_block HM.out.struct_) hmh)).trans c1
    have c0' : _ := (World.cell?_of_block (a := ⟨m, 0, none⟩) (hb1.block m (lt_of_block HM.out.struct_) hmh)).trans c0
    have HB : Hid (But (fun j => j = hb) w _) := hb1
    have HH : Hid _ := hh1
    by_cases hlt : k < L
    · have hko : k < o.length := by have := HL.out; omega
      obtain ⟨g, hg, hcell⟩ : ∃ g, ao = some ⟨g, 0, none⟩ ∧ w.cell? ⟨g, k, none⟩ = some (.int .i64 (o[k] : Nat)) := by
        have hw := HM.out.order
        obtain ⟨_, ⟨h, h0⟩ | ⟨g, cap, cur, hs, _⟩⟩ := hw
        · omega
        · cases hs
          refine ⟨g, rfl, ?_⟩
          have := HM.out.order.cells (g := g) rfl k (.int .i64 (o[k] : Nat)) (by simp [nums, hko])
          simpa [Addr.add_lit] using this
      subst hg
      have hgh : g ≠ hb := (HV.out g rfl).2
      have hcell' : _ := (World.cell?_of_block (a := ⟨g, k, none⟩) (hb1.block g (cell_lt hcell) hgh)).trans hcell
      have hi : o[k] < n := HO.out.2 _ (List.getElem_mem hko)
      have hiz : ((o[k] : Nat) : Int) < (n : Int) := by omega
      have f2 : _ := frozen_of_row _ hb o[k] _ _ hh1
      have c2 : _ := (cell_of_row _ hb o[k] _ _ _ hh1).trans (flags_get n (o.drop k) o[k] hi)
      generalize decide (o[k] ∈ o.drop k) = old at c2
      have hE : Hid (o.drop k = o[k] :: o.drop (k + 1)) := List.drop_eq_getElem_cons hko
      have hnd : Hid (o[k] ∉ o.drop (k + 1)) := by
        have h1 : (o.drop k).Nodup := HO.out.1.sublist (List.drop_sublist _ _)
        rw [hE.out] at h1
        exact (List.nodup_cons.1 h1).1
      generalize o[k] = x at hcell hcell' hi hiz f2 hE hnd c2
      clear c0 c1 hcell hb1 hh1 hko
      go_wp2_with fail
      case roundEnd =>
        refine ⟨⟨k + 1, by omega, by go_num, HB.out.set hb x _ (.inl rfl), ?_⟩, by simp [intOf]; omega⟩
        rw [heap_setCell_same _ hb x _ 4 _ HH.out, flags_set n _ (o.drop (k + 1)) x false (by simp [hnd.out]) (fun j hj => by rw [hE.out]; simp [hj])]
    · have hz : o.drop k = [] := List.drop_of_length_le (by have := HL.out; omega)
      rw [hz] at HH
      have f0 : _ := frozen_of_row _ m 0 _ _ ((hb1.block m (lt_of_block HM.out.struct_) hmh).trans HM.out.struct_)
      clear c0 c1 hb1 hh1
      go_wp2_with fail
      go_end0
      have hs : _ := (HB.out.block m (lt_of_block HM.out.struct_) hmh).trans HM.out.struct_
      refine ⟨rfl, .slice ao 0 cp, ⟨HM.out.low, heap_setCell_same _ m 0 _ 57 _ hs, ?_, ?_⟩, (HB.out.mono (fun j hj => .inl (.inr hj))).set m 0 _ (.inl (.inl rfl)), ?_⟩
      · have b4 : But (fun k => k = m) wr (wr.setCell ⟨m, 0, none⟩ (.slice ao 0 cp)) := (But.refl _ wr).set m 0 _ (.inl rfl)
        have h1 := own_but (own_but HM.out.order HB.out (fun g hg => (HV.out g hg).2)) b4 (fun g hg => (HV.out g hg).1)
        obtain ⟨_, ⟨hv, h0⟩ | ⟨g, cap, cur, hv, hB, hh, h2, h3, h4, h5⟩⟩ := h1
        · simp only [Value.slice.injEq] at hv
          obtain ⟨rfl, _, rfl⟩ := hv
          exact ⟨rfl, .inl ⟨rfl, rfl⟩⟩
        · cases hv
          exact ⟨rfl, .inr ⟨g, cp, cur, rfl, hB, hh, Nat.zero_le _, h3, h4, rfl⟩⟩
      · rw [heap_setCell_other _ ⟨m, 0, none⟩ hb _ (fun e => hmh e.symm)]
        exact HH.out
      · cases ao <;> rfl

end Go.Proofs.Ytddjppkpgflbjaa
