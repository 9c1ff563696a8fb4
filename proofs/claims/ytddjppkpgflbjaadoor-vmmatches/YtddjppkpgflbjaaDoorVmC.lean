/- Code and points in memory; the contract of takes. -/
import Derived.Test.YtddjppkpgflbjaaDoorVmAB
import Derived.Deep.RegionHeld3
namespace Go.Proofs.YtddjppkpgflbjaaDoor
open Go.RowKit Go.Shelf

/-- A slice of sets. -/
def SetsAt (B : Nat) (w : World) (v : Value) (ss : List (List RS.Rg)) : Prop :=
  ∃ ao cap, v = .slice ao ss.length cap ∧ ss.length ≤ cap ∧ (ss ≠ [] → ∃ b off, ao = some ⟨b, off, none⟩ ∧ b < B ∧ ∀ k (h : k < ss.length), ∃ u, w.cell? ⟨b, off + k, none⟩ = some u ∧ RgAt B w u ss[k])

/-- A slice of instructions. -/
def InsAt (B : Nat) (w : World) (v : Value) (xs : List VM.In) : Prop :=
  ∃ ao cap, v = .slice ao xs.length cap ∧ xs.length ≤ cap ∧ (xs ≠ [] → ∃ b off, ao = some ⟨b, off, none⟩ ∧ b < B ∧ ∀ k (h : k < xs.length),
    w.cell? ⟨b, off + k * 3, none⟩ = some (.int .i64 xs[k].op) ∧ w.cell? ⟨b, off + k * 3 + 1, none⟩ = some (.int .i64 xs[k].a) ∧ w.cell? ⟨b, off + k * 3 + 2, none⟩ = some (.int .i64 xs[k].b))

/-- A slice of numbers. -/
def PtsAt (B : Nat) (w : World) (v : Value) (l : List Int) : Prop :=
  ∃ ao cap, v = .slice ao l.length cap ∧ l.length ≤ cap ∧ (l ≠ [] → ∃ b off, ao = some ⟨b, off, none⟩ ∧ b < B ∧ ∀ k (h : k < l.length), w.cell? ⟨b, off + k, none⟩ = some (.int .i64 l[k]))

theorem SetsAt.below {w w' : World} {B : Nat} {v : Value} {s : List (List RS.Rg)} (h : SetsAt B w v s) (hb : Below B w w') (B' : Nat) (hB : B ≤ B') : SetsAt B' w' v s := by
  obtain ⟨ao, cap, rfl, hc, h⟩ := h
  refine ⟨ao, cap, rfl, hc, fun hz => ?_⟩
  obtain ⟨b, off, e, hbl, hc⟩ := h hz
  refine ⟨b, off, e, by omega, fun k hk => ?_⟩
  obtain ⟨u, h1, h2⟩ := hc k hk
  exact ⟨u, (hb.cell (by exact hbl)).trans h1, h2.below hb _ hB⟩

theorem InsAt.below {w w' : World} {B : Nat} {v : Value} {s : List VM.In} (h : InsAt B w v s) (hb : Below B w w') (B' : Nat) (hB : B ≤ B') : InsAt B' w' v s := by
  obtain ⟨ao, cap, rfl, hc, h⟩ := h
  refine ⟨ao, cap, rfl, hc, fun hz => ?_⟩
  obtain ⟨b, off, e, hbl, hc⟩ := h hz
  refine ⟨b, off, e, by omega, fun k hk => ?_⟩
  obtain ⟨h1, h2, h3⟩ := hc k hk
  exact ⟨(hb.cell (by exact hbl)).trans h1, (hb.cell (by exact hbl)).trans h2, (hb.cell (by exact hbl)).trans h3⟩

theorem PtsAt.below {w w' : World} {B : Nat} {v : Value} {s : List Int} (h : PtsAt B w v s) (hb : Below B w w') (B' : Nat) (hB : B ≤ B') : PtsAt B' w' v s := by
  obtain ⟨ao, cap, rfl, hc, h⟩ := h
  refine ⟨ao, cap, rfl, hc, fun hz => ?_⟩
  obtain ⟨b, off, e, hbl, hc⟩ := h hz
  exact ⟨b, off, e, by omega, fun k hk => (hb.cell (by exact hbl)).trans (hc k hk)⟩

set_option maxHeartbeats 1000000 in
set_option maxRecDepth 100000 in
theorem takes_nil (sv iv : Value) (o a b : Int) (ao : Option Addr) (cap : Nat) (w : World) :
    Calls Tryd.prog 47 #[.agg #[sv, iv], .agg #[.int .i64 o, .int .i64 a, .int .i64 b], .slice ao 0 cap] w fun e w' => e = .returned (.bool false) ∧ Below w.heap.size w w' := by
  have HB : Below w.heap.size w ((w.alloc (.cells #[sv, iv] 25)).alloc (.cells #[.int .i64 o, .int .i64 a, .int .i64 b] 50)) := ((Below.refl _ w).alloc (Nat.le_refl _) _).alloc (by simp) _
  have hd : decide ((0 : Int) < 0) = false := by decide
  go_enter Tryd.func47, Tryd.ntmps47
  go_wp2_with fail
  go_quiet (fail)
  go_wp2_with fail
  go_ret
  exact ⟨rfl, below_drewN HB _⟩

def TakeR (B : Nat) (w : World) (c1 c2 sb : Nat) (u : Value) (pb : Nat) (ss : List RS.Rg) (W : World) : Prop :=
  RgAt B W u ss ∧ Below w.heap.size w W ∧ (c1 < W.heap.size ∧ c2 < W.heap.size ∧ sb < W.heap.size ∧ pb < W.heap.size ∧ B ≤ W.heap.size)

/-- What takes reads. -/
def TakeS (B : Nat) (w : World) (c1 c2 : Nat) (sv : Value) (a : Nat) (sb so : Nat) (u : Value) (pb po : Nat) (p : Int) (ss : List RS.Rg) (W : World) : Prop :=
  W.cell? ⟨c1, 0, none⟩ = some sv ∧ W.cell? ⟨c2, 1, none⟩ = some (.int .i64 a) ∧ W.cell? ⟨sb, so + a, none⟩ = some u ∧ W.cell? ⟨pb, po, none⟩ = some (.int .i64 p) ∧ TakeR B w c1 c2 sb u pb ss W

theorem TakeS.keep {B : Nat} {w : World} {c1 c2 : Nat} {sv : Value} {a : Nat} {sb so : Nat} {u : Value} {pb po : Nat} {p : Int} {ss : List RS.Rg} {W W' : World} (h : TakeS B w c1 c2 sv a sb so u pb po p ss W) (hb : Below W.heap.size W W') : TakeS B w c1 c2 sv a sb so u pb po p ss W' := by
  obtain ⟨h1, h2, h3, h4, h5, h6, h7, h8, h9, h10, h11⟩ := h
  have := hb.size
  exact ⟨(hb.cell (by exact h7)).trans h1, (hb.cell (by exact h8)).trans h2, (hb.cell (by exact h9)).trans h3, (hb.cell (by exact h10)).trans h4, h5.below (hb.mono h11) _ (Nat.le_refl _), h6.trans (hb.mono h6.size), by omega, by omega, by omega, by omega, by omega⟩

theorem takeR_rg (B : Nat) (w : World) (c1 c2 : Nat) (sv : Value) (a : Nat) (sb so : Nat) (u : Value) (pb po : Nat) (p : Int) (ss : List RS.Rg) (W : World)
    (h : W.cell? ⟨c1, 0, none⟩ = some sv ∧ W.cell? ⟨c2, 1, none⟩ = some (.int .i64 a) ∧ W.cell? ⟨sb, so + a, none⟩ = some u ∧ W.cell? ⟨pb, po, none⟩ = some (.int .i64 p) ∧ TakeR B w c1 c2 sb u pb ss W) : RgAt W.heap.size W u ss :=
  h.2.2.2.2.1.below (Below.refl _ _) _ h.2.2.2.2.2.2.2.2.2.2

set_option maxHeartbeats 8000000 in
set_option maxRecDepth 100000 in
theorem takes_some (iv : Value) (o b : Int) (a sb so ns sc pb po np pc : Nat) (u : Value) (p : Int) (ss : List RS.Rg) (w : World)
    (ha : a < ns) (_hns : ns ≤ 100000) (hnp : 0 < np) (hnp2 : np ≤ 100000) (hs : w.cell? ⟨sb, so + a, none⟩ = some u) (hu : RgAt w.heap.size w u ss) (hr : RS.right ss = true) (hl : ss.length ≤ 1000000) (hp : w.cell? ⟨pb, po, none⟩ = some (.int .i64 p)) :
    Calls Tryd.prog 47 #[.agg #[.slice (some ⟨sb, so, none⟩) ns sc, iv], .agg #[.int .i64 o, .int .i64 a, .int .i64 b], .slice (some ⟨pb, po, none⟩) np pc] w fun e w' => e = .returned (.bool (RS.has ss p)) ∧ Below w.heap.size w w' := by
  obtain ⟨sv, hsv⟩ : ∃ sv, sv = Value.slice (some ⟨sb, so, none⟩) ns sc := ⟨_, rfl⟩
  have HB : Below w.heap.size w ((w.alloc (.cells #[.slice (some ⟨sb, so, none⟩) ns sc, iv] 25)).alloc (.cells #[.int .i64 o, .int .i64 a, .int .i64 b] 50)) := ((Below.refl _ w).alloc (Nat.le_refl _) _).alloc (by simp) _
  have hT : TakeS w.heap.size w w.heap.size (w.heap.size + 1) (.slice (some ⟨sb, so, none⟩) ns sc) a sb so u pb po p ss ((w.alloc (.cells #[.slice (some ⟨sb, so, none⟩) ns sc, iv] 25)).alloc (.cells #[.int .i64 o, .int .i64 a, .int .i64 b] 50)) := by
    have l1 := cell_lt hs
    have l2 := cell_lt hp
    dsimp only at l1 l2
    refine ⟨by simp, by simp, (HB.cell (by exact l1)).trans hs, (HB.cell (by exact l2)).trans hp, hu.below HB _ (Nat.le_refl _), HB, by simp; omega, by simp, by simp; omega, by simp; omega, by simp; omega⟩
  have hd : decide ((0 : Int) < (np : Int)) = true := by simp; omega
  have hnz : (0 : Int) < (np : Int) := by omega
  have haz : (a : Int) < (ns : Int) := by omega
  have ha0 : (0 : Int) ≤ (a : Int) := by omega
  clear hs hp hu hsv
  go_enter Tryd.func47, Tryd.ntmps47
  go_wp2_with fail
  generalize (w.alloc (.cells #[.slice (some ⟨sb, so, none⟩) ns sc, iv] 25)).alloc (.cells #[.int .i64 o, .int .i64 a, .int .i64 b] 50) = W1 at HB hT ⊢
  have hT' := hT
  obtain ⟨h1, h2, h3, h4, _⟩ := hT'
  have hT2 : TakeS w.heap.size w w.heap.size (w.heap.size + 1) (.slice (some ⟨sb, so, none⟩) ns sc) a sb so u pb po p ss W1.drew := hT.keep (below_drewN (Below.refl _ _) 1)
  go_region_held3 (fun W => W.cell? ⟨w.heap.size, 0, none⟩ = some (.slice (some ⟨sb, so, none⟩) ns sc) ∧ W.cell? ⟨w.heap.size + 1, 1, none⟩ = some (.int .i64 a) ∧ W.cell? ⟨sb, so + a, none⟩ = some u ∧ W.cell? ⟨pb, po, none⟩ = some (.int .i64 p) ∧ TakeR w.heap.size w w.heap.size (w.heap.size + 1) sb u pb ss W) (first | exact hT2 | exact TakeS.keep (B := w.heap.size) (w := w) (c1 := w.heap.size) (c2 := w.heap.size + 1) (sv := .slice (some ⟨sb, so, none⟩) ns sc) (a := a) (sb := sb) (so := so) (u := u) (pb := pb) (po := po) (p := p) (ss := ss) (by assumption) (by assumption))
    (first | (go_at_call 64; refine (has_any u ss p hl hr _ (takeR_rg w.heap.size w w.heap.size (w.heap.size + 1) (.slice (some ⟨sb, so, none⟩) ns sc) a sb so u pb po p ss _ ?_)).mono ?_; assumption; rintro e w9 ⟨rfl, hb9⟩))
  go_wp2_with fail
  go_ret
  exact ⟨rfl, (below_drewN HB 1).trans (hb9.mono HB.size)⟩

/-- Code in memory: its sets, its instructions. -/
def CoAt (B : Nat) (w : World) (sv iv : Value) (c : VM.Co) : Prop := SetsAt B w sv c.sets ∧ InsAt B w iv c.ins

theorem CoAt.below {w w' : World} {B : Nat} {sv iv : Value} {c : VM.Co} (h : CoAt B w sv iv c) (hb : Below B w w') (B' : Nat) (hB : B ≤ B') : CoAt B' w' sv iv c := ⟨h.1.below hb _ hB, h.2.below hb _ hB⟩

theorem takes_any (sv iv lv : Value) (c : VM.Co) (x : VM.In) (l : List Int) (w : World) (hS : SetsAt w.heap.size w sv c.sets) (hl : PtsAt w.heap.size w lv l) (hr : ∀ s ∈ c.sets, RS.right s = true ∧ s.length ≤ 1000000) (ha : 0 ≤ x.a ∧ x.a < c.sets.length)
    (hn : c.sets.length ≤ 100000) (hll : l.length ≤ 100000) :
    Calls Tryd.prog 47 #[.agg #[sv, iv], .agg #[.int .i64 x.op, .int .i64 x.a, .int .i64 x.b], lv] w fun e w' => e = .returned (.bool (VM.takes c x l)) ∧ Below w.heap.size w w' := by
  obtain ⟨po, pc, rfl, _, hp⟩ := hl
  cases l with
  | nil => exact takes_nil sv iv _ _ _ po pc w
  | cons p l =>
    obtain ⟨pb, poff, rfl, _, hpc⟩ := hp (by simp)
    obtain ⟨so, sc, rfl, _, hs⟩ := hS
    obtain ⟨o, a, b⟩ := x
    dsimp only at ha ⊢
    obtain ⟨i, rfl⟩ : ∃ i : Nat, a = i := ⟨a.toNat, by omega⟩
    have hi : i < c.sets.length := by omega
    obtain ⟨sb, soff, rfl, _, hsc⟩ := hs (fun e => by rw [e] at hi; simp at hi)
    obtain ⟨u, hu, hrg⟩ := hsc i hi
    have h0 := hpc 0 (by simp)
    have hri := hr _ (List.getElem_mem hi)
    have e : VM.takes c ⟨o, i, b⟩ (p :: l) = RS.has c.sets[i] p := by
      show RS.has (c.sets.getD (i : Int).toNat []) p = _
      rw [Int.toNat_natCast]
      simp [hi]
    rw [e]
    exact takes_some iv o b i sb soff _ sc pb poff _ pc u p _ w hi hn (by simp) hll hu hrg hri.1 hri.2 (by simpa using h0)

end Go.Proofs.YtddjppkpgflbjaaDoor
