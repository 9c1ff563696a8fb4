/- The parser's state, and the contracts of its smallest methods: is, refuse, accept, mark, take. -/
import Derived.Test.YtjbmdnkpfkelmaaGreatDoorTokE
import Derived.Maps.AppendAt
import Derived.Lib.IndexBytes
namespace Go.Proofs.YtjbmdnkpfkelmaaGreatDoor.Q
open Go.RowKit Go.Shelf

/-- The parser at block pb has these tokens left, and has read so many classes. -/
def PS (pb : Nat) (ts : List RP.Tok) (c : Nat) (w : World) : Prop :=
  ∃ tb off cap : Nat, w.heap[pb]? = some (.cells #[.slice (some ⟨tb, off, none⟩) ts.length cap, .int .i64 c] 38) ∧ tb < pb ∧ ts.length ≤ cap ∧ (ts.length ≤ 1000000 ∧ cap ≤ 9223372036854775807) ∧
    ∀ k (h : k < ts.length), w.cell? ⟨tb, off + k * 3, none⟩ = some (.int .i64 ts[k].kind) ∧ w.cell? ⟨tb, off + k * 3 + 1, none⟩ = some (.int .i64 ts[k].at_) ∧ w.cell? ⟨tb, off + k * 3 + 2, none⟩ = some (.string ⟨ts[k].text.toArray⟩)

theorem PS.lt {pb : Nat} {ts : List RP.Tok} {c : Nat} {w : World} (h : PS pb ts c w) : pb < w.heap.size := by
  obtain ⟨tb, off, cap, h1, _⟩ := h
  exact lt_of_block h1

/-- It stays so while other blocks are made. -/
theorem PS.below {pb : Nat} {ts : List RP.Tok} {c : Nat} {w w' : World} (h : PS pb ts c w) (hb : Below w.heap.size w w') : PS pb ts c w' := by
  have hl := h.lt
  obtain ⟨tb, off, cap, h1, h2, h3, h4, h5⟩ := h
  refine ⟨tb, off, cap, (hb.block pb hl).trans h1, h2, h3, h4, fun k hk => ?_⟩
  obtain ⟨a, b, d⟩ := h5 k hk
  have hbl := hb.block tb (by omega)
  exact ⟨(World.cell?_of_block (a := ⟨tb, _, none⟩) hbl).trans a, (World.cell?_of_block (a := ⟨tb, _, none⟩) hbl).trans b, (World.cell?_of_block (a := ⟨tb, _, none⟩) hbl).trans d⟩

/-- What lies at hand where a token is left. -/
theorem PS.open {pb : Nat} {t : RP.Tok} {r : List RP.Tok} {c : Nat} {w : World} (h : PS pb (t :: r) c w) : ∃ tb off cap : Nat, w.cell? ⟨pb, 0, none⟩ = some (.slice (some ⟨tb, off, none⟩) (r.length + 1) cap) ∧ w.cell? ⟨pb, 1, none⟩ = some (.int .i64 c) ∧
    w.frozen? ⟨pb, 0, none⟩ = false ∧ w.frozen? ⟨pb, 1, none⟩ = false ∧ r.length + 1 ≤ cap ∧ r.length + 1 ≤ 1000000 ∧
    w.cell? ⟨tb, off, none⟩ = some (.int .i64 t.kind) ∧ w.cell? ⟨tb, off + 1, none⟩ = some (.int .i64 t.at_) ∧ w.cell? ⟨tb, off + 2, none⟩ = some (.string ⟨t.text.toArray⟩) ∧ tb < w.heap.size ∧ tb < pb ∧
    ∀ W v, (∀ j, j ≠ pb → j < w.heap.size → W.heap[j]? = w.heap[j]?) → W.heap[pb]? = some (.cells #[v, .int .i64 c] 38) → (∃ o' cap', v = .slice (some ⟨tb, o', none⟩) r.length cap' ∧ cap' = cap - 1 ∧ (o' = off + 3 ∨ cap = 1)) → PS pb r c W := by
  have hl := h.lt
  obtain ⟨tb, off, cap, h1, h2, h3, h4, h5⟩ := h
  obtain ⟨a, b, d⟩ := h5 0 (by simp)
  refine ⟨tb, off, cap, cell_of_row w pb 0 _ _ _ h1, cell_of_row w pb 1 _ _ _ h1, frozen_of_row w pb 0 _ _ h1, frozen_of_row w pb 1 _ _ h1, h3, h4.1, by simpa using a, by simpa using b, by simpa using d, by omega, h2, ?_⟩
  rintro W v hW hpb ⟨o', cap', rfl, rfl, ho⟩
  refine ⟨tb, o', cap - 1, hpb, h2, by simp at h3; omega, by simp only [List.length_cons] at h4; omega, fun k hk => ?_⟩
  obtain rfl : o' = off + 3 := by rcases ho with h | h; exact h; simp at h3; omega
  obtain ⟨a, b, d⟩ := h5 (k + 1) (by simpa using hk)
  have hbl := hW tb (by omega) (by omega)
  have e : off + 3 + k * 3 = off + (k + 1) * 3 := by omega
  rw [e]
  exact ⟨(World.cell?_of_block (a := ⟨tb, _, none⟩) hbl).trans a, (World.cell?_of_block (a := ⟨tb, _, none⟩) hbl).trans b, (World.cell?_of_block (a := ⟨tb, _, none⟩) hbl).trans d⟩

theorem toList_ne {a b : ByteArray} (h : a ≠ b) : (a.toList == b.toList) = false := by
  rw [beq_eq_false_iff_ne]
  intro e
  apply h
  rw [Lib.toList_data, Lib.toList_data] at e
  apply ByteArray.ext
  exact Array.ext' e

set_option maxHeartbeats 1000000 in
set_option maxRecDepth 100000 in
theorem is_any (k pb : Nat) (t : RP.Tok) (r : List RP.Tok) (c : Nat) (w : World) (h : PS pb (t :: r) c w) :
    Calls Tryz.prog 17 #[.pointer (some ⟨pb, 0, none⟩), .int .i64 k] w fun e w' => e = .returned (.bool (decide (t.kind = k))) ∧ w' = w := by
  obtain ⟨tb, off, cap, c0, c1, f0, f1, hc, hcm, t0, t1, t2, -, -, -⟩ := h.open
  clear h
  go_enter Tryz.func17, Tryz.ntmps17
  go_wp2_with fail
  go_ret
  exact ⟨ret_bool (by rw [Bool.eq_iff_iff]; simp; omega), rfl⟩

/-- What refuse throws. -/
def refuseE (en : Nat) (t : RP.Tok) (c : Nat) : Nat := if t.kind = 5 ∧ c = 20 then 4 else en

set_option maxHeartbeats 1000000 in
set_option maxRecDepth 100000 in
theorem refuse_any (en pb : Nat) (t : RP.Tok) (r : List RP.Tok) (c : Nat) (w : World) (h : PS pb (t :: r) c w) :
    Calls Tryz.prog 19 #[.pointer (some ⟨pb, 0, none⟩), .int .i64 en] w fun e w' => Throws w (refuseE en t c : Nat) t.at_ e w' ∧ Below w.heap.size w w' := by
  have hI := is_any 5 pb t r c w h
  obtain ⟨tb, off, cap, c0, c1, f0, f1, hc, hcm, t0, t1, t2, -, -, -⟩ := h.open
  clear h
  have hB := fun o => (Below.refl w.heap.size w).alloc (Nat.le_refl w.heap.size) o
  by_cases h5 : t.kind = 5
  · have e5 : decide (t.kind = 5) = true := by simpa using h5
    rw [e5] at hI
    by_cases h20 : c = 20
    · have HR : Hid (refuseE en t c = 4) := by show _ = _; unfold refuseE; rw [if_pos ⟨h5, h20⟩]
      subst h20
      clear h5 e5
      go_enter Tryz.func19, Tryz.ntmps19
      go_wp2_with fail
      refine hI.mono ?_
      rintro e w' ⟨rfl, rfl⟩
      go_wp2_with fail
      refine (wrong_any 4 t.at_ _).mono ?_
      rintro e w' ⟨rfl, rfl⟩
      go_wp2_with fail
      refine ⟨rfl, ?_, hB _⟩
      rw [HR.out]
      exact ⟨_, rfl, heap_alloc_new _ _, Nat.le_refl _, by simp⟩
    · have HR : Hid (refuseE en t c = en) := by show _ = _; unfold refuseE; rw [if_neg (fun h => h20 h.2)]
      have e20 : ((c : Int) == 20) = false := by simp; omega
      clear h5 e5 h20
      go_enter Tryz.func19, Tryz.ntmps19
      go_wp2_with fail
      refine hI.mono ?_
      rintro e w' ⟨rfl, rfl⟩
      go_wp2_with fail
      refine (wrong_any en t.at_ _).mono ?_
      rintro e w' ⟨rfl, rfl⟩
      go_wp2_with fail
      refine ⟨rfl, ?_, hB _⟩
      rw [HR.out]
      exact ⟨_, rfl, heap_alloc_new _ _, Nat.le_refl _, by simp⟩
  · have e5 : decide (t.kind = 5) = false := by simpa using h5
    rw [e5] at hI
    have HR : Hid (refuseE en t c = en) := by show _ = _; unfold refuseE; rw [if_neg (fun h => h5 h.1)]
    clear h5 e5
    go_enter Tryz.func19, Tryz.ntmps19
    go_wp2_with fail
    refine hI.mono ?_
    rintro e w' ⟨rfl, rfl⟩
    go_wp2_with fail
    refine (wrong_any en t.at_ _).mono ?_
    rintro e w' ⟨rfl, rfl⟩
    go_wp2_with fail
    refine ⟨rfl, ?_, hB _⟩
    rw [HR.out]
    exact ⟨_, rfl, heap_alloc_new _ _, Nat.le_refl _, by simp⟩

theorem grown_set {w : World} {b i : Nat} (v : Value) : w.grownBy (w.setCell ⟨b, i, none⟩ v) (some b) :=
  ⟨rfl, rfl, rfl, by simp, fun k _ hk => heap_setCell_other w ⟨b, i, none⟩ k v (fun e => hk (by rw [e]))⟩

set_option maxHeartbeats 1000000 in
set_option maxRecDepth 100000 in
theorem accept_yes (pb : Nat) (t : RP.Tok) (r : List RP.Tok) (c : Nat) (x : ByteArray) (hx : (⟨t.text.toArray⟩ : ByteArray) = x) (w : World) (h : PS pb (t :: r) c w) :
    Calls Tryz.prog 40 #[.pointer (some ⟨pb, 0, none⟩), .string x] w fun e w' => e = .returned (.bool true) ∧ PS pb r c w' ∧ w.grownBy w' (some pb) := by
  have hh := h
  obtain ⟨_, _, _, hpb, _⟩ := hh
  obtain ⟨tb, off, cap, c0, c1, f0, f1, hc, hcm, t0, t1, t2, -, -, hnext⟩ := h.open
  have HN : Hid _ := hnext
  have HPB : Hid _ := hpb
  clear h hnext hpb
  rw [hx] at t2
  have hs := (show (x.toList == x.toList) = true by simp)
  clear hx
  have h1c : (1 : Int) ≤ (cap : Int) := by omega
  have h1r : (1 : Int) ≤ (r.length : Int) + 1 := by omega
  go_enter Tryz.func40, Tryz.ntmps40
  go_wp2_with fail
  all_goals go_ret
  · refine ⟨rfl, HN.out _ _ (fun j hj _ => heap_setCell_other w ⟨pb, 0, none⟩ j _ hj) (heap_setCell_same w pb 0 _ 38 _ HPB.out) ⟨off, 0, ?_, by omega, by omega⟩, grown_set _⟩
    first | rfl | (congr 1 <;> omega)
  · exact ⟨rfl, HN.out _ _ (fun j hj _ => heap_setCell_other w ⟨pb, 0, none⟩ j _ hj) (heap_setCell_same w pb 0 _ 38 _ HPB.out) ⟨off + 3, cap - 1, rfl, rfl, .inl rfl⟩, grown_set _⟩

end Go.Proofs.YtjbmdnkpfkelmaaGreatDoor.Q
