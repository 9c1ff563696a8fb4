/- What a run holds in memory; the contract of its closure. -/
import Derived.Test.YtddjppkpgflbjaaDoorVmC
namespace Go.Proofs.YtddjppkpgflbjaaDoor
open Go.RowKit Go.Shelf

/-- Where all lies: the boxes of the code, the points that are left, next, here, yes; and the structs and flags of here and next. -/
structure Site where
  bc : Nat
  bl : Nat
  bx : Nat
  bh : Nat
  by_ : Nat
  mh : Nat
  hh : Nat
  mx : Nat
  hx : Nat

structure St (B : Nat) (s : Site) (n : Nat) (sv iv lv : Value) (w : World) (vh vx : Value) (h x : List Nat) (y : Bool) : Prop where
  cC : w.heap[s.bc]? = some (.cells #[sv, iv] 25 (0, 0))
  cL : w.heap[s.bl]? = some (.cells #[lv] 29 (0, 0))
  cX : w.heap[s.bx]? = some (.cells #[.pointer (some ⟨s.mx, 0, none⟩)] 82 (0, 0))
  cH : w.heap[s.bh]? = some (.cells #[.pointer (some ⟨s.mh, 0, none⟩)] 82 (0, 0))
  cY : w.heap[s.by_]? = some (.cells #[.bool y] 4 (0, 0))
  low : B ≤ s.by_ ∧ B ≤ s.bh ∧ B ≤ s.bx
  here : MetAt B w s.mh s.hh vh n h
  next : MetAt B w s.mx s.hx vx n x
  ne : s.mh ≠ s.mx ∧ s.hh ≠ s.hx ∧ s.by_ ≠ s.hh ∧ s.by_ ≠ s.hx ∧ s.bx ≠ s.bh
  own : ∀ g, vh.ownBlock = some g → vx.ownBlock ≠ some g

/-- The blocks that a look may turn. -/
def Turns (s : Site) (vh vx : Value) (k : Nat) : Prop := Foot s.mh s.hh vh k ∨ Foot s.mx s.hx vx k ∨ k = s.by_

def Later (w : World) (v v' : Value) : Prop := ∀ g, v'.ownBlock = some g → v.ownBlock = some g ∨ w.heap.size ≤ g

theorem Later.refl (w : World) (v : Value) : Later w v v := fun _ h => .inl h

theorem Later.trans {w w' : World} {a b c : Value} (h : Later w a b) (k : Later w' b c) (hs : w.heap.size ≤ w'.heap.size) : Later w a c := fun g hg => by
  rcases k g hg with h1 | h1
  · exact h g h1
  · exact .inr (by omega)

section
variable {B : Nat} {s : Site} {n : Nat} {sv iv lv : Value} {w w' : World} {vh vx : Value} {h x : List Nat} {y : Bool}

theorem St.size (S : St B s n sv iv lv w vh vx h x y) : B ≤ w.heap.size := met_low S.here

/-- It stays where nothing but new blocks is made. -/
theorem St.below (S : St B s n sv iv lv w vh vx h x y) (hb : Below w.heap.size w w') : St B s n sv iv lv w' vh vx h x y := by
  have hB : But (fun _ => False) w w' := But.of_below hb _
  exact ⟨(hb.block _ (lt_of_block S.cC)).trans S.cC, (hb.block _ (lt_of_block S.cL)).trans S.cL, (hb.block _ (lt_of_block S.cX)).trans S.cX, (hb.block _ (lt_of_block S.cH)).trans S.cH, (hb.block _ (lt_of_block S.cY)).trans S.cY, S.low,
    S.here.but hB id id (fun _ _ => id), S.next.but hB id id (fun _ _ => id), S.ne, S.own⟩

theorem foot_types {m hb : Nat} {v : Value} {o : List Nat} (hM : MetAt B w m hb v n o) {k : Nat} (hk : Foot m hb v k) : ∃ cs t, w.heap[k]? = some (.cells cs t (0, 0)) ∧ (t = 85 ∨ t = 4 ∨ t = 3) := by
  rcases hk with rfl | rfl | hg
  · exact ⟨_, 85, hM.struct_, .inl rfl⟩
  · exact ⟨_, 4, hM.has, .inr (.inl rfl)⟩
  · obtain ⟨_, cur, hh⟩ := own_block hM.order hg
    exact ⟨cur, 3, hh, .inr (.inr rfl)⟩

theorem not_foot {m hb : Nat} {v : Value} {o : List Nat} (hM : MetAt B w m hb v n o) {k : Nat} {cs : Array Value} {t : TypeId} {f : Nat × Nat} (hk : w.heap[k]? = some (.cells cs t f)) (ht : t ≠ 85 ∧ t ≠ 4 ∧ t ≠ 3) : ¬ Foot m hb v k := by
  intro hf
  obtain ⟨cs', t', h1, h2⟩ := foot_types hM hf
  rw [hk] at h1
  cases h1
  rcases h2 with h2 | h2 | h2
  · exact ht.1 h2
  · exact ht.2.1 h2
  · exact ht.2.2 h2

/-- The feet of two are apart. -/
theorem feet_apart {m hb m' hb' : Nat} {v v' : Value} {n' : Nat} {o o' : List Nat} (hM : MetAt B w m hb v n o) (hN : MetAt B w m' hb' v' n' o') (h1 : m ≠ m') (h2 : hb ≠ hb') (h3 : ∀ g, v.ownBlock = some g → v'.ownBlock ≠ some g) {k : Nat} (hk : Foot m' hb' v' k) : ¬ Foot m hb v k := by
  intro hf
  rcases hk with rfl | rfl | hg
  · rcases hf with rfl | rfl | hf
    · exact h1 rfl
    · exact ne_of_types hN.struct_ hM.has (by decide) rfl
    · obtain ⟨_, cur, hh⟩ := own_block hM.order hf
      exact ne_of_types hN.struct_ hh (by decide) rfl
  · rcases hf with rfl | rfl | hf
    · exact ne_of_types hN.has hM.struct_ (by decide) rfl
    · exact h2 rfl
    · obtain ⟨_, cur, hh⟩ := own_block hM.order hf
      exact ne_of_types hN.has hh (by decide) rfl
  · obtain ⟨_, cur, hh⟩ := own_block hN.order hg
    rcases hf with rfl | rfl | hf
    · exact ne_of_types hh hM.struct_ (by decide) rfl
    · exact ne_of_types hh hM.has (by decide) rfl
    · exact h3 k hf hg

/-- yes is apart from both. -/
theorem yes_apart {m hb b : Nat} {v u : Value} {o : List Nat} (hM : MetAt B w m hb v n o) (hb' : w.heap[b]? = some (.cells #[u] 4 (0, 0))) (hne : b ≠ hb) : ¬ Foot m hb v b := by
  intro hf
  rcases hf with rfl | rfl | hf
  · exact ne_of_types hb' hM.struct_ (by decide) rfl
  · exact hne rfl
  · obtain ⟨_, cur, hh⟩ := own_block hM.order hf
    exact ne_of_types hb' hh (by decide) rfl

theorem St.hereMet {h' : List Nat} {vh' : Value} (S : St B s n sv iv lv w vh vx h x y) (hM : MetAt B w' s.mh s.hh vh' n h') (hb : But (Foot s.mh s.hh vh) w w') (hn : Later w vh vh') : St B s n sv iv lv w' vh' vx h' x y := by
  have nf : ∀ {k : Nat} {cs : Array Value} {t : TypeId}, w.heap[k]? = some (.cells cs t (0, 0)) → (t ≠ 85 ∧ t ≠ 4 ∧ t ≠ 3) → w'.heap[k]? = some (.cells cs t (0, 0)) := fun hk ht => (hb.block _ (lt_of_block hk) (not_foot S.here hk ht)).trans hk
  have ap : ∀ {k : Nat}, Foot s.mx s.hx vx k → ¬ Foot s.mh s.hh vh k := fun hk => feet_apart S.here S.next S.ne.1 S.ne.2.1 S.own hk
  refine ⟨nf S.cC (by decide), nf S.cL (by decide), nf S.cX (by decide), nf S.cH (by decide), (hb.block _ (lt_of_block S.cY) (yes_apart S.here S.cY S.ne.2.2.1)).trans S.cY, S.low, hM,
    S.next.but hb (ap (.inl rfl)) (ap (.inr (.inl rfl))) (fun g hg => ap (.inr (.inr hg))), S.ne, fun g hg hx => ?_⟩
  rcases hn g hg with h1 | h1
  · exact S.own g h1 hx
  · obtain ⟨_, cur, hh⟩ := own_block S.next.order hx
    have := lt_of_block hh
    omega

theorem St.nextMet {x' : List Nat} {vx' : Value} (S : St B s n sv iv lv w vh vx h x y) (hM : MetAt B w' s.mx s.hx vx' n x') (hb : But (Foot s.mx s.hx vx) w w') (hn : Later w vx vx') : St B s n sv iv lv w' vh vx' h x' y := by
  have nf : ∀ {k : Nat} {cs : Array Value} {t : TypeId}, w.heap[k]? = some (.cells cs t (0, 0)) → (t ≠ 85 ∧ t ≠ 4 ∧ t ≠ 3) → w'.heap[k]? = some (.cells cs t (0, 0)) := fun hk ht => (hb.block _ (lt_of_block hk) (not_foot S.next hk ht)).trans hk
  have ap : ∀ {k : Nat}, Foot s.mh s.hh vh k → ¬ Foot s.mx s.hx vx k := fun hk => feet_apart S.next S.here (fun e => S.ne.1 e.symm) (fun e => S.ne.2.1 e.symm) (fun g h1 h2 => S.own g h2 h1) hk
  refine ⟨nf S.cC (by decide), nf S.cL (by decide), nf S.cX (by decide), nf S.cH (by decide), (hb.block _ (lt_of_block S.cY) (yes_apart S.next S.cY S.ne.2.2.2.1)).trans S.cY, S.low,
    S.here.but hb (ap (.inl rfl)) (ap (.inr (.inl rfl))) (fun g hg => ap (.inr (.inr hg))), hM, S.ne, fun g hg hx => ?_⟩
  rcases hn g hx with h1 | h1
  · exact S.own g hg h1
  · obtain ⟨_, cur, hh⟩ := own_block S.here.order hg
    have := lt_of_block hh
    omega

theorem St.yes (S : St B s n sv iv lv w vh vx h x y) : St B s n sv iv lv (w.setCell ⟨s.by_, 0, none⟩ (.bool true)) vh vx h x true := by
  have hb : But (fun k => k = s.by_) w (w.setCell ⟨s.by_, 0, none⟩ (.bool true)) := (But.refl _ w).set s.by_ 0 _ (.inl rfl)
  have nf : ∀ {k : Nat} {cs : Array Value} {t : TypeId}, w.heap[k]? = some (.cells cs t (0, 0)) → t ≠ 4 → (w.setCell ⟨s.by_, 0, none⟩ (.bool true)).heap[k]? = some (.cells cs t (0, 0)) := fun hk ht => (hb.block _ (lt_of_block hk) (ne_of_types hk S.cY ht)).trans hk
  have h1 : ∀ {k : Nat}, Foot s.mh s.hh vh k → k ≠ s.by_ := fun hk e => yes_apart S.here S.cY S.ne.2.2.1 (e ▸ hk)
  have h2 : ∀ {k : Nat}, Foot s.mx s.hx vx k → k ≠ s.by_ := fun hk e => yes_apart S.next S.cY S.ne.2.2.2.1 (e ▸ hk)
  exact ⟨nf S.cC (by decide), nf S.cL (by decide), nf S.cX (by decide), nf S.cH (by decide), heap_setCell_same w s.by_ 0 _ 4 _ S.cY, S.low,
    S.here.but hb (h1 (.inl rfl)) (h1 (.inr (.inl rfl))) (fun g hg => h1 (.inr (.inr hg))), S.next.but hb (h2 (.inl rfl)) (h2 (.inr (.inl rfl))) (fun g hg => h2 (.inr (.inr hg))), S.ne, S.own⟩

/-- What lies at hand. -/
theorem St.cells (S : St B s n sv iv lv w vh vx h x y) : w.cell? ⟨s.bc, 0, none⟩ = some sv ∧ w.cell? ⟨s.bc, 1, none⟩ = some iv ∧ w.cell? ⟨s.bl, 0, none⟩ = some lv ∧ w.cell? ⟨s.bx, 0, none⟩ = some (.pointer (some ⟨s.mx, 0, none⟩)) ∧
    w.cell? ⟨s.bh, 0, none⟩ = some (.pointer (some ⟨s.mh, 0, none⟩)) ∧ w.cell? ⟨s.by_, 0, none⟩ = some (.bool y) ∧ w.frozen? ⟨s.by_, 0, none⟩ = false :=
  ⟨cell_of_row w _ 0 _ _ _ S.cC, cell_of_row w _ 1 _ _ _ S.cC, cell_of_row w _ 0 _ _ _ S.cL, cell_of_row w _ 0 _ _ _ S.cX, cell_of_row w _ 0 _ _ _ S.cH, cell_of_row w _ 0 _ _ _ S.cY, frozen_of_row w _ 0 _ _ S.cY⟩

end

/-- What a look leaves. -/
def Looked (B : Nat) (s : Site) (n : Nat) (sv iv lv : Value) (w : World) (vh vx : Value) (r : List Nat × List Nat × Bool) (w' : World) : Prop :=
  ∃ vh' vx', St B s n sv iv lv w' vh' vx' r.1 r.2.1 r.2.2 ∧ But (Turns s vh vx) w w' ∧ Later w vh vh' ∧ Later w vx vx'

end Go.Proofs.YtddjppkpgflbjaaDoor
