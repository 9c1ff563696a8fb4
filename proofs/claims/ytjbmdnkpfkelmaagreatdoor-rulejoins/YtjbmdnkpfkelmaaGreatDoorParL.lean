/- An append to an own row, and where it lies then; the contract of row. -/
import Derived.Test.YtjbmdnkpfkelmaaGreatDoorParK
namespace Go.Proofs.YtjbmdnkpfkelmaaGreatDoor.Q
open Go.RowKit Go.Shelf

theorem append_where {P : Program} (w : World) (base : Nat) (t ty e : TypeId) (i : TypeInfo) (z : Value) (bytes : Nat) (ht : P.underlying t = some (.slice e)) (hi : P.info? e = some i) (hz : i.zero = some z)
    (hsize : i.size = 1) (hby : i.bytes = bytes) (hzs : z.cells.size = 1)
    (v : Value) (n : Nat) (xs : List Value) (hown : w.ownsRow base e 1 v n xs)
    (a : Addr) (c : Nat) (u : Value) (hu : w.cell? a = some u) (h1 : u.oneCell' = true)
    (h63 : n + 1 ≤ maxLen) (hbytes : (n + 1) * bytes ≤ 140737488355328) (hbase : base ≤ w.heap.size) :
    ∃ v' w', (Builtin.append_ #[t, t] ty #[v, .slice (some a) 1 c]).run P w = .ok v' w' ∧ w'.ownsRow base e 1 v' (n + 1) (xs ++ [u]) ∧ w.grownBy w' v.ownBlock ∧ (v'.ownBlock = v.ownBlock ∨ v'.ownBlock = some w.heap.size) := by
  have hnews : ∀ j x, [u][j]? = some x → w.cell? (a.add j) = some x := by
    intro j x hj
    match j, hj with
    | 0, hj => cases hj; simpa [Addr.add] using hu
    | j + 1, hj => simp at hj
  have h1' : ∀ x ∈ [u], x.oneCell' = true := fun x hx => by simp at hx; rw [hx]; exact h1
  obtain ⟨v', w', hr, h2, h3, _⟩ := run_append_own (P := P) w base t ty e i z 1 bytes ht hi hz hsize hby hzs (by omega) v n xs hown a 1 c [u] rfl hnews h1' h63 hbytes hbase
  refine ⟨v', w', hr, h2, h3, ?_⟩
  have hl : [u].length = 1 * i.size := by rw [hsize]; rfl
  have h63' : n + 1 ≤ 9223372036854775807 := by simp only [maxLen] at h63; omega
  rcases hown.2 with ⟨rfl, rfl⟩ | ⟨g, cap, cur, rfl, hbg, hg, hnc, hcm, hcs, htake⟩
  · have hr2 := run_append_nil (P := P) w t ty e i z ht hi hz a 1 c [u] hl hnews (by omega) (by omega) (by rw [hby]; omega)
    rw [hr2] at hr
    cases hr
    exact .inr rfl
  · by_cases hroom : n + 1 ≤ cap
    · have hr2 := run_append_room (P := P) w t ty e i ht hi g n cap cur hg a 1 c [u] hl hnews h1' hroom (by rw [hsize, hcs]; simp; omega)
      rw [hr2] at hr
      cases hr
      exact .inl rfl
    · have hr2 := run_append_grow (P := P) w t ty e i z ht hi hz ⟨g, 0, none⟩ n cap xs (by rw [hsize]; exact hown.1) (hown.cells (g := g) rfl) a 1 c [u] hl hnews (by omega) (by omega) (growslice_fits (by omega) (by rw [hby]; exact hbytes))
      rw [hr2] at hr
      cases hr
      exact .inr rfl

theorem info46' : (Tryz.prog.info? 46).map (fun i => (i.zero, i.size, i.bytes)) = some (some (.pointer none), 1, 8) := by kernel_rfl

/-- Patterns in an own row, none in the row's own block. -/
def Held (w0 w : World) (v : Value) (vs : List Value) (ps : List RP.Pt) : Prop :=
  w.ownsRow w0.heap.size 46 1 v vs.length vs ∧ PsAt (fun b => New w0 b ∧ v.ownBlock ≠ some b) w vs ps ∧ ∀ u ∈ vs, IsPtr u

theorem Held.nil (w0 w : World) : Held w0 w (.slice none 0 0) [] [] := ⟨World.ownsRow_nil _ _ _ _, rfl, fun _ h => by simp at h⟩

theorem Held.row {w0 w : World} {v : Value} {vs : List Value} {ps : List RP.Pt} (h : Held w0 w v vs ps) : Row (New w0) w 46 1 v vs.length vs ∧ PsAt (New w0) w vs ps :=
  ⟨Row.new h.1, h.2.1.mono fun _ _ hb => hb.1⟩

theorem Held.grown {w0 w w' : World} {v : Value} {vs : List Value} {ps : List RP.Pt} {pb : Nat} (h : Held w0 w v vs ps) (hl : pb < w0.heap.size) (hg : w.grownBy w' (some pb)) : Held w0 w' v vs ps := by
  refine ⟨?_, h.2.1.keep (Keeps.grown hg fun b hb e => by cases e; have := hb.1; unfold New at this; omega), h.2.2⟩
  obtain ⟨h1, h2 | ⟨g, cap, cur, rfl, hgl, hh, rest⟩⟩ := h.1
  · exact ⟨h1, Or.inl h2⟩
  · exact ⟨h1, Or.inr ⟨g, cap, cur, rfl, hgl, (hg.block g (lt_of_block hh) (fun e => by cases e; omega)).trans hh, rest⟩⟩

/-- One more: made in new blocks, laid into a slice of one, appended. -/
theorem Held.more {w0 wr w : World} {v : Value} {vs : List Value} {ps : List RP.Pt} {b : Nat} {p : RP.Pt} (ty : TypeId) (h : Held w0 w v vs ps) (h0 : w0.heap.size ≤ wr.heap.size) (hrw : wr.heap.size ≤ w.heap.size)
    (hvb : ∀ j, v.ownBlock = some j → j < wr.heap.size)
    (hp : PAt (New wr) w [.pointer (some ⟨b, 0, none⟩)] p) (hn : vs.length ≤ 1000000) :
    ∃ v' w', (Builtin.append_ #[88, 88] ty #[v, .slice (some ⟨w.heap.size, 0, none⟩) 1 1]).run Tryz.prog (w.alloc (.cells #[.pointer (some ⟨b, 0, none⟩)] 46)) = .ok v' w' ∧
      Held w0 w' v' (vs ++ [.pointer (some ⟨b, 0, none⟩)]) (ps ++ [p]) ∧ (w.alloc (.cells #[.pointer (some ⟨b, 0, none⟩)] 46)).grownBy w' v.ownBlock := by
  obtain ⟨i0, hi, hz0, hz1, hz2⟩ := info_parts info46'
  have hown : (w.alloc (.cells #[.pointer (some ⟨b, 0, none⟩)] 46)).ownsRow w0.heap.size 46 1 v vs.length vs := h.1.alloc _
  obtain ⟨v', w', hr, h2, h3, h4⟩ := append_where (P := Tryz.prog) (w.alloc (.cells #[.pointer (some ⟨b, 0, none⟩)] 46)) w0.heap.size 88 ty 46 i0 (.pointer none) 8 Tryz.underlying88 hi hz0 hz1 hz2 rfl v vs.length vs hown ⟨w.heap.size, 0, none⟩ 1 (.pointer (some ⟨b, 0, none⟩)) (by simp) rfl (by unfold maxLen; omega) (by omega) (by simp; omega)
  refine ⟨v', w', hr, ⟨by simpa using h2, ?_, ?_⟩, h3⟩
  · have hnot : ∀ j, j < (w.alloc (.cells #[.pointer (some ⟨b, 0, none⟩)] 46)).heap.size → v.ownBlock ≠ some j → v'.ownBlock ≠ some j := by
      intro j hj hne e
      rcases h4 with h4 | h4
      · exact hne (h4.symm.trans e)
      · rw [h4] at e
        cases e
        omega
    have e1 : PsAt (fun b => (New w0 b ∧ v.ownBlock ≠ some b) ∧ v'.ownBlock ≠ some b) (w.alloc (.cells #[.pointer (some ⟨b, 0, none⟩)] 46)) vs ps :=
      PAt.mono (fun j hj hb => ⟨hb, hnot j hj hb.2⟩) (PAt.keep (Keeps.alloc _ _ _) h.2.1)
    have e2 : PAt (fun b => (New w0 b ∧ v.ownBlock ≠ some b) ∧ v'.ownBlock ≠ some b) (w.alloc (.cells #[.pointer (some ⟨b, 0, none⟩)] 46)) [.pointer (some ⟨b, 0, none⟩)] p :=
      PAt.mono (fun j hj hb => by
        have hv : v.ownBlock ≠ some j := fun e => by have := hvb j e; unfold New at hb; omega
        exact ⟨⟨Nat.le_trans h0 hb, hv⟩, hnot j hj hv⟩) (PAt.keep (Keeps.alloc _ _ _) hp)
    exact PAt.mono (fun j _ hb => ⟨hb.1.1, hb.2⟩) (PAt.keep (Keeps.grown h3 fun b hb e => hb.1.2 e.symm) (PsAt.snoc e1 e2))
  · intro u hu
    simp at hu
    rcases hu with hu | rfl
    · exact h.2.2 u hu
    · exact ⟨_, rfl⟩

end Go.Proofs.YtjbmdnkpfkelmaaGreatDoor.Q
