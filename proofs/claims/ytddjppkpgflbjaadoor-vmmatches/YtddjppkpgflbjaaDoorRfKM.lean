/- A set of numbers in memory: a map from them to bools that holds true alone. -/
import Derived.Test.YtddjppkpgflbjaaDoorVmAB
import Derived.Maps.OwnSet
import Derived.Test.YtddjppkpgflbjaaDoorVmD
import Derived.Test.YtddjppkpgflbjaaDoorVmF
namespace Go.Proofs.YtddjppkpgflbjaaDoor
open Go.RowKit Go.Shelf Go.Maps

theorem law3 : Keyed Tryd.prog 3 := int_keyed Tryd.underlying3

theorem zero4 (w : World) : (zeroValue 4).run Tryd.prog w = .ok (.bool false) w := by kernel_rfl

theorem plainElem_bool_inv {H : Type} {P : Program} {e : TypeId} (he : P.underlying e = some .bool) {v : Value} {z : DataW H × List MemPlace} (h : plainElem P e v = some z) : ∃ x, v = .bool x ∧ z = (.lit (.bool x), []) := by
  unfold plainElem at h
  rw [he] at h
  cases v <;> simp at h
  subst h
  exact ⟨_, rfl, rfl⟩

/-- The map at b holds just these numbers; at most n entries. -/
def IntSet (w : World) (b n : Nat) (o : List Nat) : Prop :=
  ∃ D : DataW Unit, w.ownsMap Tryd.prog 3 (plainElem Tryd.prog 4) b n D ∧ ∀ i : Nat, D.atKey (.int .i64 i) (.lit (.bool false)) = .lit (.bool (decide (i ∈ o)))

theorem IntSet.made (w : World) : IntSet (w.alloc (.map #[] 0)) w.heap.size 0 [] :=
  ⟨_, World.ownsMap_made w _ _ _, fun i => by simp; rfl⟩

theorem IntSet.mono {w : World} {b n n' : Nat} {o : List Nat} (h : IntSet w b n o) (hn : n ≤ n') : IntSet w b n' o := by
  obtain ⟨D, h1, h2⟩ := h
  exact ⟨D, h1.mono hn, h2⟩

theorem IntSet.congr {w : World} {b n : Nat} {o p : List Nat} (h : IntSet w b n o) (he : ∀ i, i ∈ o ↔ i ∈ p) : IntSet w b n p := by
  obtain ⟨D, h1, h2⟩ := h
  exact ⟨D, h1, fun i => by rw [h2 i]; simp [he i]⟩

theorem IntSet.heap {w w' : World} {b n : Nat} {o : List Nat} (h : IntSet w b n o) (he : w'.heap[b]? = w.heap[b]?) : IntSet w' b n o := by
  obtain ⟨D, ⟨es, clock, hb, h1⟩, h2⟩ := h
  exact ⟨D, ⟨es, clock, he.trans hb, h1⟩, h2⟩

theorem IntSet.lt {w : World} {b n : Nat} {o : List Nat} (h : IntSet w b n o) : b < w.heap.size := by
  obtain ⟨D, h1, -⟩ := h
  exact h1.lt

theorem IntSet.block {w : World} {b n : Nat} {o : List Nat} (h : IntSet w b n o) : ∃ es clock, w.heap[b]? = some (.map es clock) := by
  obtain ⟨D, ⟨es, clock, hb, h1⟩, h2⟩ := h
  exact ⟨es, clock, hb⟩

/-- Is a number in it? -/
theorem IntSet.look {w : World} {b n : Nat} {o : List Nat} (h : IntSet w b n o) {i : Nat} (hi : i ≤ 1000000) :
    (Instr.lookup 58 (.map (some b)) (.int .i64 (i : Int)) false).run Tryd.prog w = .ok (.bool (decide (i ∈ o))) w := by
  obtain ⟨D, h1, h2⟩ := h
  obtain ⟨v, ps, hrun, hv⟩ := h1.lookup law3 Tryd.underlying58 (zero4 w) (plainElem_bool Tryd.underlying4 false) (keyOf_int_mk Tryd.underlying3 (WalkArith.wf_i64 (n := (i : Int)) (by omega)))
  obtain ⟨x, rfl, hx⟩ := plainElem_bool_inv Tryd.underlying4 hv
  rw [h2 i] at hx
  simp at hx
  rw [hx.1]
  exact hrun

/-- A number is put into it. -/
theorem IntSet.put {w : World} {b n : Nat} {o : List Nat} (h : IntSet w b n o) {i : Nat} (hi : i ≤ 1000000) (hn : n ≤ 1000000) :
    ∃ w', (Instr.mapUpdate 58 (.map (some b)) (.int .i64 (i : Int)) (.bool true)).run Tryd.prog w = .ok () w' ∧ IntSet w' b (n + 1) (o ++ [i]) ∧ But (fun k => k = b) w w' := by
  obtain ⟨D, h1, h2⟩ := h
  have hk := keyOf_int_mk Tryd.underlying3 (WalkArith.wf_i64 (n := (i : Int)) (by omega))
  obtain ⟨w', hrun, h3, h4⟩ := h1.update law3 Tryd.underlying58 (by unfold maxLen; omega) hk (plainElem_bool Tryd.underlying4 true)
  refine ⟨w', hrun, ⟨_, h3, fun j => ?_⟩, ⟨h4.os, h4.tape, h4.output, h4.size, fun k hk hs => h4.block k hk (fun e => hs (by cases e; rfl))⟩⟩
  by_cases hj : j = i
  · subst hj
    rw [atKey_put_same (h1.isMap) (law3.key hk)]
    simp
  · rw [atKey_put_other (fun e => hj (by cases e; rfl)), h2 j]
    simp [hj]

end Go.Proofs.YtddjppkpgflbjaaDoor

namespace Go.Proofs.YtddjppkpgflbjaaDoor
open Go.RowKit Go.Shelf

/-- What was met here: the variable of the map, that of the order, the map, the order. -/
structure MSt (B : Nat) (w : World) (bm bh mp : Nat) (v : Value) (h : List Nat) : Prop where
  cM : w.heap[bm]? = some (.cells #[.map (some mp)] 58 (0, 0))
  cH : w.heap[bh]? = some (.cells #[v] 29 (0, 0))
  order : w.ownsRow B 3 1 v h.length (nums h)
  set_ : IntSet w mp (2 * h.length + 1) h
  low : B ≤ bm ∧ B ≤ bh ∧ B ≤ mp

/-- Its blocks that turn. -/
def FootM (bh mp : Nat) (v : Value) (k : Nat) : Prop := k = bh ∨ k = mp ∨ v.ownBlock = some k

theorem not_map {w : World} {a b n : Nat} {cs : Array Value} {t : TypeId} {f : Nat × Nat} {o : List Nat} (ha : w.heap[a]? = some (.cells cs t f)) (hb : IntSet w b n o) : a ≠ b := by
  intro e
  subst e
  obtain ⟨es, clock, h⟩ := hb.block
  rw [ha] at h
  cases h

/-- A number more in an own row, and where it lies then. -/
theorem nums_more {B : Nat} {W : World} {v : Value} {l : List Nat} (i : Nat) (ho : W.ownsRow B 3 1 v l.length (nums l)) (hl : l.length ≤ 200000) (hB : B ≤ W.heap.size) :
    ∃ v' W2, (Builtin.append_ #[29, 29] 29 #[v, .slice (some ⟨W.heap.size, 0, none⟩) 1 1]).run Tryd.prog (W.alloc (.cells #[.int .i64 (i : Int)] 3)) = .ok v' W2 ∧ (∃ ao cp, v' = .slice ao (l.length + 1) cp) ∧ W2.ownsRow B 3 1 v' (l ++ [i]).length (nums (l ++ [i])) ∧ But (fun k => v.ownBlock = some k) W W2 ∧ Later W v v' := by
  obtain ⟨i3, hi3, hz0, hz1, hz2⟩ := info_parts info3
  have b0 : But (fun k => v.ownBlock = some k) W (W.alloc (.cells #[.int .i64 (i : Int)] 3)) := (But.refl _ W).alloc _
  have o2 := own_but ho ((But.refl (fun _ => False) W).alloc (.cells #[.int .i64 (i : Int)] 3)) (fun _ _ => id)
  obtain ⟨v', W2, hr, h2, h3, h4⟩ := append_where (P := Tryd.prog) (W.alloc (.cells #[.int .i64 (i : Int)] 3)) B 29 29 3 i3 (.int .i64 0) 8 Tryd.underlying29 hi3 hz0 hz1 hz2 rfl _ _ _ o2 ⟨W.heap.size, 0, none⟩ 1 (.int .i64 (i : Int)) (by rw [World.cell?_alloc_at _ _ _ _ rfl]; rfl) rfl (by unfold maxLen; omega) (by omega) (by simp; omega)
  refine ⟨v', W2, hr, own_slice h2, ?_, b0.grown h3 (fun k hk => .inl hk), fun g hg => ?_⟩
  · rw [List.length_append]
    simpa [nums] using h2
  · rcases h4 with h4 | h4
    · exact .inl (h4.symm.trans hg)
    · rw [h4] at hg
      cases hg
      exact .inr (by simp)

theorem MSt.low_size {B : Nat} {w : World} {bm bh mp : Nat} {v : Value} {h : List Nat} (M : MSt B w bm bh mp v h) : B ≤ w.heap.size := by
  have := lt_of_block M.cM
  have := M.low.1
  omega

/-- What meeting a new one leaves. -/
theorem soon_world {B : Nat} {w : World} {bm bh mp : Nat} {v : Value} {h : List Nat} (M : MSt B w bm bh mp v h) {i : Nat} (hi : i ≤ 100000) (hl : h.length ≤ 100000) (ho : i ∉ h) :
    ∃ w1 v' w2, (Instr.mapUpdate 58 (.map (some mp)) (.int .i64 (i : Int)) (.bool true)).run Tryd.prog w = .ok () w1 ∧ w1.cell? ⟨bh, 0, none⟩ = some v ∧
      (Builtin.append_ #[29, 29] 29 #[v, .slice (some ⟨w1.heap.size, 0, none⟩) 1 1]).run Tryd.prog (w1.alloc (.cells #[.int .i64 (i : Int)] 3)) = .ok v' w2 ∧ (∃ ao cp, v' = .slice ao (h.length + 1) cp) ∧
      w2.frozen? ⟨bh, 0, none⟩ = false ∧ (∃ u, w2.cell? ⟨bh, 0, none⟩ = some u) ∧
      MSt B (w2.setCell ⟨bh, 0, none⟩ v') bm bh mp v' (VM.meet h i) ∧ But (FootM bh mp v) w (w2.setCell ⟨bh, 0, none⟩ v') ∧ Later w v v' := by
  obtain ⟨w1, hu, s1, b1⟩ := M.set_.put (i := i) (by omega) (by omega)
  have n1 : bh ≠ mp := not_map M.cH M.set_
  have n2 : bm ≠ mp := not_map M.cM M.set_
  have n3 : bm ≠ bh := ne_of_types M.cM M.cH (by decide)
  have hv : ∀ g, v.ownBlock = some g → g ≠ mp ∧ g ≠ bh ∧ g ≠ bm := fun g hg => by
    obtain ⟨_, cur, hh⟩ := own_block M.order hg
    exact ⟨not_map hh M.set_, ne_of_types hh M.cH (by decide), ne_of_types hh M.cM (by decide)⟩
  have o1 := own_but M.order b1 (fun g hg => (hv g hg).1)
  have hB := M.low_size
  obtain ⟨v', w2, hr, hs, o2, b2, l2⟩ := nums_more i o1 (by omega) (by have := b1.size; omega)
  have em : VM.meet h i = h ++ [i] := by unfold VM.meet; rw [if_neg ho]
  have k1 : w1.heap[bh]? = some (.cells #[v] 29 (0, 0)) := (b1.block _ (lt_of_block M.cH) n1).trans M.cH
  have k2 : w2.heap[bh]? = some (.cells #[v] 29 (0, 0)) := (b2.block _ (lt_of_block k1) (fun e => (hv bh e).2.1 rfl)).trans k1
  have m1 : w1.heap[bm]? = some (.cells #[.map (some mp)] 58 (0, 0)) := (b1.block _ (lt_of_block M.cM) n2).trans M.cM
  have m2 : w2.heap[bm]? = some (.cells #[.map (some mp)] 58 (0, 0)) := (b2.block _ (lt_of_block m1) (fun e => (hv bm e).2.2 rfl)).trans m1
  have s2 : IntSet w2 mp (2 * h.length + 2) (h ++ [i]) := s1.heap (b2.block _ s1.lt (fun e => (hv mp e).1 rfl))
  have hl' : Later w v v' := fun g hg => (l2 g hg).imp id (fun h => by have := b1.size; omega)
  have hv' : ∀ g, v'.ownBlock = some g → g ≠ bh := fun g hg => by
    rcases l2 g hg with h1 | h1
    · exact (hv g h1).2.1
    · have := lt_of_block k1
      omega
  refine ⟨w1, v', w2, hu, cell_of_row _ _ 0 _ _ _ k1, hr, hs, frozen_of_row _ _ 0 _ _ k2, ⟨_, cell_of_row _ _ 0 _ _ _ k2⟩, ?_, ?_, hl'⟩
  · rw [em]
    have b3 : But (fun k => k = bh) w2 (w2.setCell ⟨bh, 0, none⟩ v') := (But.refl _ w2).set bh 0 _ (.inl rfl)
    refine ⟨(b3.block _ (lt_of_block m2) n3).trans m2, heap_setCell_same w2 bh 0 _ 29 v' k2, own_but o2 b3 hv', (s2.heap (b3.block _ s2.lt (fun e => n1 e.symm))).mono ?_, M.low⟩
    rw [List.length_append]
    simp
    omega
  · refine ((b1.mono (T := FootM bh mp v) (fun j hj => .inl (.inr (.inl hj)))).trans b2 (fun j hj => ?_)).set bh 0 _ (.inl (.inl rfl))
    exact .inl (.inr (.inr hj))

set_option maxHeartbeats 1000000 in
set_option maxRecDepth 100000 in
theorem soon_old (B : Nat) (w : World) (bm bh mp : Nat) (v : Value) (h : List Nat) (M : MSt B w bm bh mp v h) (i : Nat) (hi : i ≤ 100000) (ho : i ∈ h) :
    Calls Tryd.prog 23 #[.int .i64 i, .pointer (some ⟨bm, 0, none⟩), .pointer (some ⟨bh, 0, none⟩)] w fun e w' => e = .returned (.tuple #[]) ∧ w' = w := by
  have c1 : w.cell? ⟨bm, 0, none⟩ = some (.map (some mp)) := cell_of_row w bm 0 _ _ _ M.cM
  have hl := M.set_.look (i := i) (by omega)
  simp only [ho, decide_true] at hl
  clear M ho
  go_enter Tryd.func23, Tryd.ntmps23
  go_wp2_with fail
  go_end0
  exact ⟨rfl, rfl⟩

set_option maxHeartbeats 1000000 in
set_option maxRecDepth 100000 in
theorem soon_new (B : Nat) (w : World) (bm bh mp : Nat) (v : Value) (h : List Nat) (M : MSt B w bm bh mp v h) (i : Nat) (hi : i ≤ 100000) (hn : h.length ≤ 100000) (ho : i ∉ h) :
    Calls Tryd.prog 23 #[.int .i64 i, .pointer (some ⟨bm, 0, none⟩), .pointer (some ⟨bh, 0, none⟩)] w fun e w' => e = .returned (.tuple #[]) ∧ ∃ v', MSt B w' bm bh mp v' (VM.meet h i) ∧ But (FootM bh mp v) w w' ∧ Later w v v' := by
  have c1 : w.cell? ⟨bm, 0, none⟩ = some (.map (some mp)) := cell_of_row w bm 0 _ _ _ M.cM
  have hl := M.set_.look (i := i) (by omega)
  simp only [ho, decide_false] at hl
  obtain ⟨w1, v', w2, hu, k1, hr, ⟨ao', cp', hv'⟩, hf, ⟨u, hu2⟩, h1, h2, h3⟩ := soon_world M hi hn ho
  obtain ⟨ao, cp, hv⟩ := own_slice M.order
  have HH : Hid (MSt B (w2.setCell ⟨bh, 0, none⟩ v') bm bh mp v' (VM.meet h i) ∧ But (FootM bh mp v) w (w2.setCell ⟨bh, 0, none⟩ v') ∧ Later w v v') := ⟨h1, h2, h3⟩
  have HR : Hid ((Builtin.append_ #[29, 29] 29 #[v, .slice (some ⟨w1.heap.size, 0, none⟩) 1 1]).run Tryd.prog (w1.alloc (.cells #[.int .i64 (i : Int)] 3)) = .ok v' w2) := hr
  clear M ho h1 h2 h3 hr
  subst hv hv'
  go_enter Tryd.func23, Tryd.ntmps23
  go_wp2_with (at_builtin; refine Lib.wpList_append_run _ rfl _ _ _ _ rfl _ _ rfl rfl _ _ HR.out ?_)
  go_wp2_with fail
  go_end0
  exact ⟨rfl, _, HH.out⟩

theorem soon_any (B : Nat) (w : World) (bm bh mp : Nat) (v : Value) (h : List Nat) (M : MSt B w bm bh mp v h) (i : Nat) (hi : i ≤ 100000) (hn : h.length ≤ 100000) :
    Calls Tryd.prog 23 #[.int .i64 i, .pointer (some ⟨bm, 0, none⟩), .pointer (some ⟨bh, 0, none⟩)] w fun e w' => e = .returned (.tuple #[]) ∧ ∃ v', MSt B w' bm bh mp v' (VM.meet h i) ∧ But (FootM bh mp v) w w' ∧ Later w v v' := by
  by_cases ho : i ∈ h
  · refine (soon_old B w bm bh mp v h M i hi ho).mono ?_
    rintro e w' ⟨rfl, rfl⟩
    have em : VM.meet h i = h := by unfold VM.meet; rw [if_pos ho]
    rw [em]
    exact ⟨rfl, v, M, But.refl _ _, Later.refl _ _⟩
  · exact soon_new B w bm bh mp v h M i hi hn ho

end Go.Proofs.YtddjppkpgflbjaaDoor

namespace Go.Proofs.YtddjppkpgflbjaaDoor
open Go.RowKit Go.Shelf

/-- Numbers of an own row, cell by cell. -/
theorem own_nums {B : Nat} {w : World} {v : Value} {o : List Nat} (h : w.ownsRow B 3 1 v o.length (nums o)) : ∃ ao cp, v = .slice ao o.length cp ∧ ∀ k (hk : k < o.length), ∃ g, ao = some ⟨g, 0, none⟩ ∧ w.cell? ⟨g, k, none⟩ = some (.int .i64 (o[k] : Nat)) := by
  obtain ⟨ao, cp, rfl⟩ := own_slice h
  refine ⟨ao, cp, rfl, fun k hk => ?_⟩
  have h' := h
  obtain ⟨_, ⟨_, h0⟩ | ⟨g, cap, cur, hs, _⟩⟩ := h'
  · omega
  · cases hs
    refine ⟨g, rfl, ?_⟩
    have := h.cells (g := g) rfl k (.int .i64 (o[k] : Nat)) (by simp [nums, hk])
    simpa [Addr.add_lit] using this

/-- Between two points: the code's variable, the order of those met here. -/
structure Pt (B : Nat) (w : World) (bc bh : Nat) (sv iv : Value) (v : Value) (h : List Nat) : Prop where
  cC : w.heap[bc]? = some (.cells #[sv, iv] 25 (0, 0))
  cH : w.heap[bh]? = some (.cells #[v] 29 (0, 0))
  order : w.ownsRow B 3 1 v h.length (nums h)
  low : B ≤ bc ∧ B ≤ bh

/-- .. and a map of some numbers. -/
structure Pm (B : Nat) (w : World) (bc bm bh mp : Nat) (sv iv : Value) (v : Value) (h : List Nat) (n : Nat) (o : List Nat) : Prop where
  pt : Pt B w bc bh sv iv v h
  cM : w.heap[bm]? = some (.cells #[.map (some mp)] 58 (0, 0))
  set_ : IntSet w mp n o
  low : B ≤ bm ∧ B ≤ mp

/-- While a point is looked at. -/
structure Wk (B : Nat) (w : World) (bc bm bh mp sp : Nat) (sv iv : Value) (vh vx : Value) (h x : List Nat) : Prop where
  cC : w.heap[bc]? = some (.cells #[sv, iv] 25 (0, 0))
  met : MSt B w bm bh mp vh h
  next : w.ownsRow B 3 1 vx x.length (nums x)
  soon : IntSet w sp x.length x
  low : B ≤ bc ∧ B ≤ sp
  ne : mp ≠ sp
  own : ∀ g, vh.ownBlock = some g → vx.ownBlock ≠ some g

section
variable {B : Nat} {w w' : World} {bc bm bh mp sp : Nat} {sv iv v vh vx : Value} {h x o : List Nat} {n : Nat}

theorem Pt.but (P : Pt B w bc bh sv iv v h) {S : Nat → Prop} (hb : But S w w') (h1 : ¬ S bc) (h2 : ¬ S bh) (h3 : ∀ g, v.ownBlock = some g → ¬ S g) : Pt B w' bc bh sv iv v h :=
  ⟨(hb.block _ (lt_of_block P.cC) h1).trans P.cC, (hb.block _ (lt_of_block P.cH) h2).trans P.cH, own_but P.order hb h3, P.low⟩

theorem Pt.below (P : Pt B w bc bh sv iv v h) (hb : Below w.heap.size w w') : Pt B w' bc bh sv iv v h :=
  P.but (But.of_below hb (fun _ => False)) id id (fun _ _ => id)

theorem Pt.size (P : Pt B w bc bh sv iv v h) : B ≤ w.heap.size := by
  have := lt_of_block P.cC
  have := P.low.1
  omega

theorem Pt.cells (P : Pt B w bc bh sv iv v h) : w.cell? ⟨bc, 0, none⟩ = some sv ∧ w.cell? ⟨bc, 1, none⟩ = some iv ∧ w.cell? ⟨bh, 0, none⟩ = some v :=
  ⟨cell_of_row _ _ 0 _ _ _ P.cC, cell_of_row _ _ 1 _ _ _ P.cC, cell_of_row _ _ 0 _ _ _ P.cH⟩

/-- A map is made and its first number put into it. -/
theorem Pt.start (P : Pt B w bc bh sv iv v h) {i : Nat} (hi : i ≤ 100000) :
    ∃ w1, (Instr.mapUpdate 58 (.map (some w.heap.size)) (.int .i64 (i : Int)) (.bool true)).run Tryd.prog (w.alloc (.map #[] 0)) = .ok () w1 ∧
      Pm B (w1.alloc (.cells #[.map (some w.heap.size)] 58)) bc w1.heap.size bh w.heap.size sv iv v h 1 [i] ∧ Below B w (w1.alloc (.cells #[.map (some w.heap.size)] 58)) := by
  obtain ⟨w1, hu, s1, b1⟩ := (IntSet.made w).put (i := i) (by omega) (by omega)
  have b0 : Below w.heap.size w (w.alloc (.map #[] 0)) := (Below.refl _ w).alloc (Nat.le_refl _) _
  have hs := P.size
  have b2 : Below B w w1 := (b0.mono hs).trans (b1.below (by simp; omega) (fun j hj => by rw [hj]; exact hs))
  have P1 := (P.below b0).but b1 (by have := lt_of_block P.cC; omega) (by have := lt_of_block P.cH; omega) (fun g hg => by
    obtain ⟨_, cur, hh⟩ := own_block P.order hg
    have := lt_of_block hh
    omega)
  have bn : But (fun _ => False) w1 (w1.alloc (.cells #[.map (some w.heap.size)] 58)) := (But.refl _ w1).alloc _
  exact ⟨w1, hu, ⟨P1.but bn id id (fun _ _ => id), heap_alloc_new _ _, s1.heap (bn.block _ s1.lt id), P1.size, hs⟩, b2.alloc P1.size _⟩

theorem Pm.not_met (P : Pm B w bc bm bh mp sv iv v h n o) : bc ≠ mp ∧ bh ≠ mp ∧ bm ≠ mp ∧ ∀ g, v.ownBlock = some g → g ≠ mp :=
  ⟨not_map P.pt.cC P.set_, not_map P.pt.cH P.set_, not_map P.cM P.set_, fun g hg => by
    obtain ⟨_, cur, hh⟩ := own_block P.pt.order hg
    exact not_map hh P.set_⟩

/-- A number more. -/
theorem Pm.put (P : Pm B w bc bm bh mp sv iv v h n o) {i : Nat} (hi : i ≤ 100000) (hn : n ≤ 200000) :
    ∃ w1, (Instr.mapUpdate 58 (.map (some mp)) (.int .i64 (i : Int)) (.bool true)).run Tryd.prog w = .ok () w1 ∧ Pm B w1 bc bm bh mp sv iv v h (n + 1) (o ++ [i]) ∧ Below B w w1 := by
  obtain ⟨w1, hu, s1, b1⟩ := P.set_.put (i := i) (by omega) (by omega)
  obtain ⟨n1, n2, n3, n4⟩ := P.not_met
  exact ⟨w1, hu, ⟨P.pt.but b1 n1 n2 n4, (b1.block _ (lt_of_block P.cM) n3).trans P.cM, s1, P.low⟩, b1.below P.pt.size (fun j hj => by rw [hj]; exact P.low.2)⟩

/-- Nothing is met at the next point as yet. -/
theorem Pm.walk (P : Pm B w bc bm bh mp sv iv v h n o) (hn : n ≤ 2 * h.length + 1) (ho : ∀ i, i ∈ o ↔ i ∈ h) : Wk B (w.alloc (.map #[] 0)) bc bm bh mp w.heap.size sv iv v (.slice none 0 0) h [] := by
  have bn : But (fun _ => False) w (w.alloc (.map #[] 0)) := (But.refl _ w).alloc _
  have P1 := P.pt.but bn id id (fun _ _ => id)
  exact ⟨P1.cC, ⟨(bn.block _ (lt_of_block P.cM) id).trans P.cM, P1.cH, P1.order, ((P.set_.congr ho).mono hn).heap (bn.block _ P.set_.lt id), P.low.1, P.pt.low.2, P.low.2⟩,
    ⟨by simp [nums], .inl ⟨rfl, rfl⟩⟩, IntSet.made w, ⟨P.pt.low.1, P.pt.size⟩, by have := P.set_.lt; omega, fun g _ h2 => by simp [Value.ownBlock] at h2⟩

theorem Wk.size (K : Wk B w bc bm bh mp sp sv iv vh vx h x) : B ≤ w.heap.size := K.met.low_size

theorem Wk.cells (K : Wk B w bc bm bh mp sp sv iv vh vx h x) : w.cell? ⟨bc, 0, none⟩ = some sv ∧ w.cell? ⟨bc, 1, none⟩ = some iv ∧ w.cell? ⟨bh, 0, none⟩ = some vh ∧ w.frozen? ⟨bh, 0, none⟩ = false :=
  ⟨cell_of_row _ _ 0 _ _ _ K.cC, cell_of_row _ _ 1 _ _ _ K.cC, cell_of_row _ _ 0 _ _ _ K.met.cH, frozen_of_row _ _ 0 _ _ K.met.cH⟩

theorem Wk.below (K : Wk B w bc bm bh mp sp sv iv vh vx h x) (hb : Below w.heap.size w w') : Wk B w' bc bm bh mp sp sv iv vh vx h x := by
  have bn : But (fun _ => False) w w' := But.of_below hb _
  exact ⟨(bn.block _ (lt_of_block K.cC) id).trans K.cC, ⟨(bn.block _ (lt_of_block K.met.cM) id).trans K.met.cM, (bn.block _ (lt_of_block K.met.cH) id).trans K.met.cH, own_but K.met.order bn (fun _ _ => id), K.met.set_.heap (bn.block _ K.met.set_.lt id), K.met.low⟩,
    own_but K.next bn (fun _ _ => id), K.soon.heap (bn.block _ K.soon.lt id), K.low, K.ne, K.own⟩

/-- An instruction is met here. -/
theorem Wk.meet (K : Wk B w bc bm bh mp sp sv iv vh vx h x) {i : Nat} (hi : i ≤ 100000) (hn : h.length ≤ 100000) :
    Calls Tryd.prog 23 #[.int .i64 i, .pointer (some ⟨bm, 0, none⟩), .pointer (some ⟨bh, 0, none⟩)] w fun e w' => e = .returned (.tuple #[]) ∧ ∃ v', Wk B w' bc bm bh mp sp sv iv v' vx (VM.meet h i) x ∧ Below B w w' ∧
      ∀ (k : Nat) (cs : Array Value), w.heap[k]? = some (Obj.cells cs 50 (0, 0)) → w'.heap[k]? = some (Obj.cells cs 50 (0, 0)) := by
  refine (soon_any B w bm bh mp vh h K.met i hi hn).mono ?_
  rintro e w' ⟨rfl, v', M, hb, hl⟩
  have nf : ∀ {k : Nat} {cs : Array Value} {t : TypeId}, w.heap[k]? = some (.cells cs t (0, 0)) → t ≠ 29 → t ≠ 3 → ¬ FootM bh mp vh k := fun hk h1 h2 e => by
    rcases e with e | e | e
    · exact ne_of_types hk K.met.cH h1 e
    · exact not_map hk K.met.set_ e
    · obtain ⟨_, cur, hh⟩ := own_block K.met.order e
      rw [hk] at hh
      cases hh
      exact h2 rfl
  refine ⟨rfl, v', ⟨(hb.block _ (lt_of_block K.cC) (nf K.cC (by decide) (by decide))).trans K.cC, M, own_but K.next hb ?_, K.soon.heap (hb.block _ K.soon.lt ?_), K.low, K.ne, ?_⟩, hb.below K.size ?_, fun k cs hk => (hb.block k (lt_of_block hk) (nf hk (by decide) (by decide))).trans hk⟩
  · intro g hg e
    obtain ⟨_, cur, hh⟩ := own_block K.next hg
    rcases e with e | e | e
    · exact ne_of_types hh K.met.cH (by decide) e
    · exact not_map hh K.met.set_ e
    · exact K.own g e hg
  · intro e
    rcases e with e | e | e
    · exact not_map K.met.cH K.soon e.symm
    · exact K.ne e.symm
    · obtain ⟨_, cur, hh⟩ := own_block K.met.order e
      exact not_map hh K.soon rfl
  · intro g h1 h2
    rcases hl g h1 with h3 | h3
    · exact K.own g h3 h2
    · obtain ⟨_, cur, hh⟩ := own_block K.next h2
      have := lt_of_block hh
      omega
  · intro j e
    rcases e with rfl | rfl | e
    · exact K.met.low.2.1
    · exact K.met.low.2.2
    · exact (own_block K.met.order e).1

/-- An instruction is met at the next point. -/
theorem Wk.take (K : Wk B w bc bm bh mp sp sv iv vh vx h x) {i : Nat} (hi : i ≤ 100000) (hn : x.length ≤ 100000) (ho : i ∉ x) :
    ∃ w1 v' w2, (Instr.mapUpdate 58 (.map (some sp)) (.int .i64 (i : Int)) (.bool true)).run Tryd.prog w = .ok () w1 ∧
      (Builtin.append_ #[29, 29] 29 #[vx, .slice (some ⟨w1.heap.size, 0, none⟩) 1 1]).run Tryd.prog (w1.alloc (.cells #[.int .i64 (i : Int)] 3)) = .ok v' w2 ∧ (∃ ao cp, v' = .slice ao (x.length + 1) cp) ∧
      Wk B w2 bc bm bh mp sp sv iv vh v' h (VM.meet x i) ∧ Below B w w2 := by
  obtain ⟨w1, hu, s1, b1⟩ := K.soon.put (i := i) (by omega) (by omega)
  have hvx : ∀ g, vx.ownBlock = some g → ∃ cur, w.heap[g]? = some (.cells cur 3 (0, 0)) := fun g hg => (own_block K.next hg).2
  have hvh : ∀ g, vh.ownBlock = some g → ∃ cur, w.heap[g]? = some (.cells cur 3 (0, 0)) := fun g hg => (own_block K.met.order hg).2
  have o1 := own_but K.next b1 (fun g hg => by
    obtain ⟨cur, hh⟩ := hvx g hg
    exact not_map hh K.soon)
  have hB := K.size
  obtain ⟨v', w2, hr, hs, o2, b2, l2⟩ := nums_more i o1 (by omega) (by have := b1.size; omega)
  have em : VM.meet x i = x ++ [i] := by unfold VM.meet; rw [if_neg ho]
  have b3 : But (fun k => k = sp ∨ vx.ownBlock = some k) w w2 := (b1.mono (T := fun k => k = sp ∨ vx.ownBlock = some k) (fun j hj => .inl (.inl hj))).trans b2 (fun j hj => .inl (.inr hj))
  have nf : ∀ {k : Nat} {cs : Array Value} {t : TypeId}, w.heap[k]? = some (.cells cs t (0, 0)) → t ≠ 3 → ¬ (k = sp ∨ vx.ownBlock = some k) := fun hk h2 e => by
    rcases e with e | e
    · exact not_map hk K.soon e
    · obtain ⟨cur, hh⟩ := hvx _ e
      rw [hk] at hh
      cases hh
      exact h2 rfl
  refine ⟨w1, v', w2, hu, hr, hs, ⟨(b3.block _ (lt_of_block K.cC) (nf K.cC (by decide))).trans K.cC, ⟨(b3.block _ (lt_of_block K.met.cM) (nf K.met.cM (by decide))).trans K.met.cM, (b3.block _ (lt_of_block K.met.cH) (nf K.met.cH (by decide))).trans K.met.cH, own_but K.met.order b3 ?_, K.met.set_.heap (b3.block _ K.met.set_.lt ?_), K.met.low⟩, ?_, ?_, K.low, K.ne, ?_⟩, b3.below hB ?_⟩
  · intro g hg e
    obtain ⟨cur, hh⟩ := hvh g hg
    rcases e with e | e
    · exact not_map hh K.soon e
    · exact K.own g hg e
  · intro e
    rcases e with e | e
    · exact K.ne e
    · obtain ⟨cur, hh⟩ := hvx _ e
      exact not_map hh K.met.set_ rfl
  · rw [em]; exact o2
  · rw [em, List.length_append]
    refine s1.heap (b2.block _ s1.lt (fun e => ?_))
    obtain ⟨cur, hh⟩ := hvx _ e
    exact not_map hh K.soon rfl
  · intro g h1 h2
    rcases l2 g h2 with h3 | h3
    · exact K.own g h1 h3
    · obtain ⟨cur, hh⟩ := hvh g h1
      have := lt_of_block hh
      have := b1.size
      omega
  · intro j e
    rcases e with rfl | e
    · exact K.low.2
    · exact (own_block K.next e).1

/-- The next point is gone to. -/
theorem Wk.done (K : Wk B w bc bm bh mp sp sv iv vh vx h x) : Pt B (w.setCell ⟨bh, 0, none⟩ vx) bc bh sv iv vx x ∧ Below B w (w.setCell ⟨bh, 0, none⟩ vx) := by
  have b3 : But (fun k => k = bh) w (w.setCell ⟨bh, 0, none⟩ vx) := (But.refl _ w).set bh 0 _ (.inl rfl)
  refine ⟨⟨(b3.block _ (lt_of_block K.cC) (ne_of_types K.cC K.met.cH (by decide))).trans K.cC, heap_setCell_same w bh 0 _ 29 vx K.met.cH, own_but K.next b3 (fun g hg => ?_), K.low.1, K.met.low.2.1⟩, b3.below K.size (fun j hj => by rw [hj]; exact K.met.low.2.1)⟩
  obtain ⟨_, cur, hh⟩ := own_block K.next hg
  exact ne_of_types hh K.met.cH (by decide)

end

end Go.Proofs.YtddjppkpgflbjaaDoor
