/- What run begins with; what a run holds between two points. -/
import Derived.Test.YtddjppkpgflbjaaDoorVmF
import Derived.Test.YtddjppkpgflbjaaDoorRunMath
namespace Go.Proofs.YtddjppkpgflbjaaDoor
open Go.RowKit Go.Shelf

/-- A cell of a block that is there. -/
def There (a : Nat) (v : Value) (W : World) : Prop := W.cell? ⟨a, 1, none⟩ = some v ∧ a < W.heap.size

theorem There.alloc {a : Nat} {v : Value} {W : World} (h : There a v W) (o : Obj) : There a v (W.alloc o) :=
  ⟨(World.cell?_of_block (a := ⟨a, 1, none⟩) (heap_alloc_old W o h.2)).trans h.1, by have := h.2; simp; omega⟩

theorem There.drew {a : Nat} {v : Value} {W : World} (h : There a v W) : There a v W.drew := h

theorem There.set {a : Nat} {v : Value} {W : World} (h : There a v W) {g i : Nat} (u : Value) (hg : a ≠ g) : There a v (W.setCell ⟨g, i, none⟩ u) :=
  ⟨(World.cell?_of_block (a := ⟨a, 1, none⟩) (heap_setCell_other W ⟨g, i, none⟩ a u hg)).trans h.1, by have := h.2; simp; omega⟩

/-- What lies in memory when here and next are made. -/
structure Begun (w : World) (sv iv : Value) (n : Nat) (W : World) (bh bx mh hh mx hx : Nat) : Prop where
  cC : W.heap[w.heap.size]? = some (.cells #[sv, iv] 25 (0, 0))
  cH : W.heap[bh]? = some (.cells #[.pointer (some ⟨mh, 0, none⟩)] 82 (0, 0))
  cX : W.heap[bx]? = some (.cells #[.pointer (some ⟨mx, 0, none⟩)] 82 (0, 0))
  sH : W.heap[mh]? = some (.cells #[.slice none 0 0, .slice (some ⟨hh, 0, none⟩) n n] 85 (0, 0))
  fH : W.heap[hh]? = some (.cells (flags n []).toArray 4 (0, 0))
  sX : W.heap[mx]? = some (.cells #[.slice none 0 0, .slice (some ⟨hx, 0, none⟩) n n] 85 (0, 0))
  fX : W.heap[hx]? = some (.cells (flags n []).toArray 4 (0, 0))
  low : w.heap.size ≤ bh ∧ w.heap.size ≤ bx ∧ w.heap.size ≤ mh ∧ w.heap.size ≤ hh ∧ w.heap.size ≤ mx ∧ w.heap.size ≤ hx
  ne : mh ≠ mx ∧ hh ≠ hx ∧ bx ≠ bh
  below : Below w.heap.size w W

theorem allocs_heap : ∀ (l : List Obj) (w : World), (l.foldl World.alloc w).heap = w.heap ++ l.toArray ∧ Below w.heap.size w (l.foldl World.alloc w) := by
  intro l
  induction l with
  | nil => intro w; exact ⟨by simp, Below.refl _ _⟩
  | cons o l ih =>
    intro w
    obtain ⟨h1, h2⟩ := ih (w.alloc o)
    refine ⟨?_, ?_⟩
    · rw [List.foldl_cons, h1]
      show w.heap.push o ++ l.toArray = _
      simp
    · exact ((Below.refl _ w).alloc (Nat.le_refl _) o).trans (h2.mono (by simp))

theorem begun_of {w W : World} {p q sv iv : Value} {n : Nat} (l : List Obj) (bh bx mh hh mx hx : Nat) (hW : W = (l.foldl World.alloc w).drew) (hp : p = .pointer (some ⟨w.heap.size + bh, 0, none⟩)) (hq : q = .pointer (some ⟨w.heap.size + bx, 0, none⟩))
    (e0 : l[0]? = some (.cells #[sv, iv] 25 (0, 0))) (e1 : l[bh]? = some (.cells #[.pointer (some ⟨w.heap.size + mh, 0, none⟩)] 82 (0, 0))) (e2 : l[bx]? = some (.cells #[.pointer (some ⟨w.heap.size + mx, 0, none⟩)] 82 (0, 0)))
    (e3 : l[mh]? = some (.cells #[.slice none 0 0, .slice (some ⟨w.heap.size + hh, 0, none⟩) n n] 85 (0, 0))) (e4 : l[hh]? = some (.cells (flags n []).toArray 4 (0, 0)))
    (e5 : l[mx]? = some (.cells #[.slice none 0 0, .slice (some ⟨w.heap.size + hx, 0, none⟩) n n] 85 (0, 0))) (e6 : l[hx]? = some (.cells (flags n []).toArray 4 (0, 0)))
    (hne : mh ≠ mx ∧ hh ≠ hx) (hne2 : bx ≠ bh) :
    ∃ bh bx mh hh mx hx, p = .pointer (some ⟨bh, 0, none⟩) ∧ q = .pointer (some ⟨bx, 0, none⟩) ∧ Begun w sv iv n W bh bx mh hh mx hx := by
  obtain ⟨h1, h2⟩ := allocs_heap l w
  have hg : ∀ i, W.heap[w.heap.size + i]? = l[i]? := fun i => by
    rw [hW]
    show (l.foldl World.alloc w).heap[w.heap.size + i]? = _
    rw [h1, Array.getElem?_append_right (by omega), show w.heap.size + i - w.heap.size = i by omega]
    simp
  refine ⟨_, _, w.heap.size + mh, w.heap.size + hh, w.heap.size + mx, w.heap.size + hx, hp, hq, (hg 0).trans e0, (hg _).trans e1, (hg _).trans e2, (hg _).trans e3, (hg _).trans e4, (hg _).trans e5, (hg _).trans e6, by omega, by omega, ?_⟩
  rw [hW]
  exact h2.trans ⟨rfl, rfl, rfl, Nat.le_refl _, fun _ _ => rfl⟩

/-- The points from one on. -/
theorem pts_drop {B : Nat} {w : World} {po : Option Addr} {L pc k : Nat} {l : List Int} (hL : L = l.length) (hc : L ≤ pc) (hk : k ≤ L)
    (h : l ≠ [] → ∃ b off, po = some ⟨b, off, none⟩ ∧ b < B ∧ ∀ k (h : k < l.length), w.cell? ⟨b, off + k, none⟩ = some (.int .i64 l[k])) :
    (k = pc → PtsAt B w (.slice po (L - k) 0) (l.drop k)) ∧ PtsAt B w (.slice (po.map fun x => x.add k) (L - k) (pc - k)) (l.drop k) := by
  subst hL
  refine ⟨fun e => ?_, ?_⟩
  · have e0 : l.drop k = [] := List.drop_of_length_le (by omega)
    rw [e0, show l.length - k = 0 by omega]
    exact ⟨po, 0, rfl, Nat.le_refl _, fun h => absurd rfl h⟩
  · refine ⟨_, _, by rw [List.length_drop], by rw [List.length_drop]; omega, fun hz => ?_⟩
    have hne : l ≠ [] := fun e => hz (by rw [e]; simp)
    obtain ⟨b, off, rfl, hb, hcell⟩ := h hne
    refine ⟨b, off + k, by simp [Addr.add_lit], hb, fun j hj => ?_⟩
    have hj' : k + j < l.length := by rw [List.length_drop] at hj; omega
    rw [List.getElem_drop]
    have := hcell (k + j) hj'
    rwa [← Nat.add_assoc] at this

/-- What a run holds between two points. -/
structure Pre (B : Nat) (s : Site) (n : Nat) (sv iv : Value) (w : World) (vh vx : Value) (h x : List Nat) (y : Bool) : Prop where
  cC : w.heap[s.bc]? = some (.cells #[sv, iv] 25 (0, 0))
  cX : w.heap[s.bx]? = some (.cells #[.pointer (some ⟨s.mx, 0, none⟩)] 82 (0, 0))
  cH : w.heap[s.bh]? = some (.cells #[.pointer (some ⟨s.mh, 0, none⟩)] 82 (0, 0))
  cY : w.heap[s.by_]? = some (.cells #[.bool y] 4 (0, 0))
  low : B ≤ s.by_ ∧ B ≤ s.bh ∧ B ≤ s.bx
  here : MetAt B w s.mh s.hh vh n h
  next : MetAt B w s.mx s.hx vx n x
  ne : s.mh ≠ s.mx ∧ s.hh ≠ s.hx ∧ s.by_ ≠ s.hh ∧ s.by_ ≠ s.hx ∧ s.bx ≠ s.bh
  own : ∀ g, vh.ownBlock = some g → vx.ownBlock ≠ some g

section
variable {B : Nat} {s : Site} {n : Nat} {sv iv lv : Value} {w w' : World} {vh vx : Value} {h x : List Nat} {y : Bool}

theorem St.pre (S : St B s n sv iv lv w vh vx h x y) : Pre B s n sv iv w vh vx h x y := ⟨S.cC, S.cX, S.cH, S.cY, S.low, S.here, S.next, S.ne, S.own⟩

theorem Pre.left (P : Pre B s n sv iv w vh vx h x y) (lv : Value) : St B { s with bl := w.heap.size } n sv iv lv (w.alloc (.cells #[lv] 29)) vh vx h x y := by
  have hb : But (fun _ => False) w (w.alloc (.cells #[lv] 29)) := (But.refl _ w).alloc _
  exact ⟨(hb.block _ (lt_of_block P.cC) id).trans P.cC, heap_alloc_new _ _, (hb.block _ (lt_of_block P.cX) id).trans P.cX, (hb.block _ (lt_of_block P.cH) id).trans P.cH, (hb.block _ (lt_of_block P.cY) id).trans P.cY, P.low,
    P.here.but hb id id (fun _ _ => id), P.next.but hb id id (fun _ _ => id), P.ne, P.own⟩

theorem Pre.cells (P : Pre B s n sv iv w vh vx h x y) : w.cell? ⟨s.bx, 0, none⟩ = some (.pointer (some ⟨s.mx, 0, none⟩)) ∧ w.cell? ⟨s.bh, 0, none⟩ = some (.pointer (some ⟨s.mh, 0, none⟩)) ∧ w.cell? ⟨s.by_, 0, none⟩ = some (.bool y) ∧ w.cell? ⟨s.mh, 0, none⟩ = some vh :=
  ⟨cell_of_row w _ 0 _ _ _ P.cX, cell_of_row w _ 0 _ _ _ P.cH, cell_of_row w _ 0 _ _ _ P.cY, cell_of_row w _ 0 _ _ _ P.here.struct_⟩

/-- here and next change places. -/
def Site.swap (s : Site) : Site := { s with mh := s.mx, hh := s.hx, mx := s.mh, hx := s.hh }

theorem St.swap (S : St B s n sv iv lv w vh vx h x y) : St B s.swap n sv iv lv ((w.setCell ⟨s.bh, 0, none⟩ (.pointer (some ⟨s.mx, 0, none⟩))).setCell ⟨s.bx, 0, none⟩ (.pointer (some ⟨s.mh, 0, none⟩))) vx vh x h y := by
  have hb : But (fun k => k = s.bh ∨ k = s.bx) w ((w.setCell ⟨s.bh, 0, none⟩ (.pointer (some ⟨s.mx, 0, none⟩))).setCell ⟨s.bx, 0, none⟩ (.pointer (some ⟨s.mh, 0, none⟩))) := ((But.refl _ w).set s.bh 0 _ (.inl (.inl rfl))).set s.bx 0 _ (.inl (.inr rfl))
  have nf : ∀ {k : Nat} {cs : Array Value} {t : TypeId}, w.heap[k]? = some (.cells cs t (0, 0)) → t ≠ 82 → ¬ (k = s.bh ∨ k = s.bx) := fun hk ht e => by
    rcases e with e | e
    · exact ne_of_types hk S.cH ht e
    · exact ne_of_types hk S.cX ht e
  have nk : ∀ {k : Nat} {cs : Array Value} {t : TypeId}, w.heap[k]? = some (.cells cs t (0, 0)) → t ≠ 82 → ((w.setCell ⟨s.bh, 0, none⟩ (.pointer (some ⟨s.mx, 0, none⟩))).setCell ⟨s.bx, 0, none⟩ (.pointer (some ⟨s.mh, 0, none⟩))).heap[k]? = some (.cells cs t (0, 0)) := fun hk ht => (hb.block _ (lt_of_block hk) (nf hk ht)).trans hk
  have no : ∀ {v : Value} {m hb : Nat} {o : List Nat}, MetAt B w m hb v n o → ∀ g, v.ownBlock = some g → ¬ (g = s.bh ∨ g = s.bx) := fun hM g hg => by
    obtain ⟨_, cur, hh⟩ := own_block hM.order hg
    exact nf hh (by decide)
  have h1 : (w.setCell ⟨s.bh, 0, none⟩ (.pointer (some ⟨s.mx, 0, none⟩))).heap[s.bx]? = some (.cells #[.pointer (some ⟨s.mx, 0, none⟩)] 82 (0, 0)) := (heap_setCell_other w ⟨s.bh, 0, none⟩ s.bx _ S.ne.2.2.2.2).trans S.cX
  have h2 : (w.setCell ⟨s.bh, 0, none⟩ (.pointer (some ⟨s.mx, 0, none⟩))).heap[s.bh]? = some (.cells #[.pointer (some ⟨s.mx, 0, none⟩)] 82 (0, 0)) := heap_setCell_same w s.bh 0 _ 82 _ S.cH
  refine ⟨nk S.cC (by decide), nk S.cL (by decide), heap_setCell_same _ s.bx 0 _ 82 _ h1, ?_, nk S.cY (by decide), S.low,
    S.next.but hb (nf S.next.struct_ (by decide)) (nf S.next.has (by decide)) (no S.next), S.here.but hb (nf S.here.struct_ (by decide)) (nf S.here.has (by decide)) (no S.here),
    ⟨fun e => S.ne.1 e.symm, fun e => S.ne.2.1 e.symm, S.ne.2.2.2.1, S.ne.2.2.1, S.ne.2.2.2.2⟩, fun g h1 h2 => S.own g h2 h1⟩
  exact (heap_setCell_other _ ⟨s.bx, 0, none⟩ s.bh _ (fun e => S.ne.2.2.2.2 e.symm)).trans h2

/-- next is forgotten. -/
theorem St.forgot {vx' : Value} (S : St B s n sv iv lv w vh vx h x y) (hM : MetAt B w' s.mx s.hx vx' n []) (hb : But (fun k => k = s.mx ∨ k = s.hx) w w') (he : vx'.ownBlock = vx.ownBlock) : St B s n sv iv lv w' vh vx' h [] y :=
  S.nextMet hM (hb.mono (fun _ h => .inl (h.elim .inl (fun e => .inr (.inl e))))) (fun _ hg => .inl (he.symm.trans hg))

/-- A run's first state. -/
theorem Begun.pre {W W1 : World} {bh bx mh hh mx hx : Nat} {v : Value} (G : Begun w sv iv n W bh bx mh hh mx hx) (hM : MetAt w.heap.size W1 mh hh v n h) (hb : But (Foot mh hh (.slice none 0 0)) W W1) :
    Pre w.heap.size ⟨w.heap.size, 0, bx, bh, W1.heap.size, mh, hh, mx, hx⟩ n sv iv (W1.alloc (.cells #[.bool false] 4)) v (.slice none 0 0) h [] false := by
  have hf : ∀ {k : Nat} {cs : Array Value} {t : TypeId}, W.heap[k]? = some (.cells cs t (0, 0)) → k ≠ mh → k ≠ hh → W1.heap[k]? = some (.cells cs t (0, 0)) := fun hk h1 h2 => (hb.block _ (lt_of_block hk) (fun e => by
    rcases e with e | e | e
    · exact h1 e
    · exact h2 e
    · simp [Value.ownBlock] at e)).trans hk
  have hn : But (fun _ => False) W1 (W1.alloc (.cells #[.bool false] 4)) := (But.refl _ W1).alloc _
  have hk : ∀ {k : Nat} {cs : Array Value} {t : TypeId}, W1.heap[k]? = some (.cells cs t (0, 0)) → (W1.alloc (.cells #[.bool false] 4)).heap[k]? = some (.cells cs t (0, 0)) := fun hk => (hn.block _ (lt_of_block hk) id).trans hk
  have x1 := hf G.cX (ne_of_types G.cX G.sH (by decide)) (ne_of_types G.cX G.fH (by decide))
  have x2 := hf G.cH (ne_of_types G.cH G.sH (by decide)) (ne_of_types G.cH G.fH (by decide))
  have x3 := hf G.sX (fun e => G.ne.1 e.symm) (ne_of_types G.sX G.fH (by decide))
  have x4 := hf G.fX (ne_of_types G.fX G.sH (by decide)) (fun e => G.ne.2.1 e.symm)
  have x5 := hf G.cC (ne_of_types G.cC G.sH (by decide)) (ne_of_types G.cC G.fH (by decide))
  have l0 := G.low
  have l1 := lt_of_block x4
  have l2 := lt_of_block hM.has
  have l3 := hb.size
  have l4 := G.below.size
  refine ⟨hk x5, hk x1, hk x2, heap_alloc_new _ _, ⟨by show w.heap.size ≤ W1.heap.size; omega, l0.1, l0.2.1⟩, hM.but hn id id (fun _ _ => id), ⟨⟨l0.2.2.2.2.1, l0.2.2.2.2.2⟩, hk x3, ⟨by simp [nums], .inl ⟨rfl, rfl⟩⟩, hk x4⟩, ⟨G.ne.1, G.ne.2.1, ?_, ?_, G.ne.2.2⟩, fun g _ h2 => by simp [Value.ownBlock] at h2⟩
  · show W1.heap.size ≠ hh; omega
  · show W1.heap.size ≠ hx; omega

end

theorem each_n (B : Nat) (s : Site) (sv iv lv : Value) (c : VM.Co) (l : List Int) (h x : List Nat) (vh vx : Value) (w : World) (N : Nat) (hN : c.ins.length = N) (S : St B s N sv iv lv w vh vx h x false) (F : Fit B w sv iv lv c l)
    (hh : VM.Met N h) (hx : VM.Met N x) :
    Calls Tryd.prog 45 #[.pointer (some ⟨s.mh, 0, none⟩), .func (.func 46) #[] (caught s)] w fun e w' => e = .returned (.int .i64 ((VM.each c l (c.ins.length + 1) 0 h x).2.2.2 : Nat)) ∧
      Looked B s N sv iv lv w vh vx ((VM.each c l (c.ins.length + 1) 0 h x).1, (VM.each c l (c.ins.length + 1) 0 h x).2.1, (VM.each c l (c.ins.length + 1) 0 h x).2.2.1) w' := by
  subst hN
  exact each_any B s sv iv lv c l h x vh vx w S F hh hx

/-- The boxes of here and next while they change places. -/
theorem St.turning {B : Nat} {s : Site} {n : Nat} {sv iv lv : Value} {w : World} {vh vx : Value} {h x : List Nat} {y : Bool} (S : St B s n sv iv lv w vh vx h x y) :
    w.frozen? ⟨s.bh, 0, none⟩ = false ∧ (w.setCell ⟨s.bh, 0, none⟩ (.pointer (some ⟨s.mx, 0, none⟩))).frozen? ⟨s.bx, 0, none⟩ = false ∧ (w.setCell ⟨s.bh, 0, none⟩ (.pointer (some ⟨s.mx, 0, none⟩))).cell? ⟨s.bx, 0, none⟩ = some (.pointer (some ⟨s.mx, 0, none⟩)) ∧
      ((w.setCell ⟨s.bh, 0, none⟩ (.pointer (some ⟨s.mx, 0, none⟩))).setCell ⟨s.bx, 0, none⟩ (.pointer (some ⟨s.mh, 0, none⟩))).cell? ⟨s.bx, 0, none⟩ = some (.pointer (some ⟨s.mh, 0, none⟩)) := by
  have h1 : (w.setCell ⟨s.bh, 0, none⟩ (.pointer (some ⟨s.mx, 0, none⟩))).heap[s.bx]? = some (.cells #[.pointer (some ⟨s.mx, 0, none⟩)] 82 (0, 0)) := (heap_setCell_other w ⟨s.bh, 0, none⟩ s.bx _ S.ne.2.2.2.2).trans S.cX
  exact ⟨frozen_of_row _ _ 0 _ _ S.cH, frozen_of_row _ _ 0 _ _ h1, cell_of_row _ _ 0 _ _ _ h1, S.swap.cells.2.2.2.1⟩

end Go.Proofs.YtddjppkpgflbjaaDoor
