/- The row of instructions that VmMoved makes. -/
import Derived.Test.YtddjppkpgflbjaaVmL
import Derived.Test.YtddjppkpgflbjaaMovMath
import Derived.Laws.OwnMore
namespace Go.Proofs.Ytddjppkpgflbjaa
open Go.RowKit Go.Shelf

/-- What VmMoved holds from its first look on. -/
def Held (w : World) (sv iv : Value) (W : World) : Prop :=
  W.cell? ⟨w.heap.size, 0, none⟩ = some sv ∧ W.cell? ⟨w.heap.size, 1, none⟩ = some iv ∧ Below w.heap.size w W ∧ w.heap.size < W.heap.size

theorem Held.start (w : World) (sv iv : Value) : Held w sv iv (w.alloc (.cells #[sv, iv] 25)) := ⟨by simp, by simp, (Below.refl _ w).alloc (Nat.le_refl _) _, by simp⟩

theorem Held.keep {w : World} {sv iv : Value} {W W' : World} (h : Held w sv iv W) (hb : Below (w.heap.size + 1) W W') : Held w sv iv W' := by
  obtain ⟨h1, h2, h3, h4⟩ := h
  have := hb.size
  exact ⟨(hb.cell (p := ⟨w.heap.size, 0, none⟩) (Nat.lt_succ_self _)).trans h1, (hb.cell (p := ⟨w.heap.size, 1, none⟩) (Nat.lt_succ_self _)).trans h2, h3.trans (hb.mono (by omega)), by omega⟩

theorem Held.call {w : World} {sv iv : Value} {W W' : World} (h : Held w sv iv W) (hb : Below W.heap.size W W') : Held w sv iv W' := h.keep (hb.mono h.2.2.2)

theorem Held.open_ {w : World} {sv iv : Value} {W : World} (h : Held w sv iv W) : W.cell? ⟨w.heap.size, 0, none⟩ = some sv ∧ W.cell? ⟨w.heap.size, 1, none⟩ = some iv ∧ Below w.heap.size w W ∧ w.heap.size < W.heap.size := h

/-- An instruction's cells. -/
def cells3 (x : VM.In) : List Value := [.int .i64 x.op, .int .i64 x.a, .int .i64 x.b]
def flat3 (s : List VM.In) : List Value := s.flatMap cells3

theorem flat3_snoc (s : List VM.In) (x : VM.In) : flat3 (s ++ [x]) = flat3 s ++ cells3 x := by simp [flat3]

theorem flat3_length (s : List VM.In) : (flat3 s).length = s.length * 3 := by
  induction s with
  | nil => rfl
  | cons x s ih =>
    show (cells3 x ++ flat3 s).length = _
    rw [List.length_append, ih, List.length_cons]
    show 3 + _ = _
    omega

theorem flat3_get : ∀ (s : List VM.In) (k : Nat) (h : k < s.length), (flat3 s)[k * 3]? = some (.int .i64 s[k].op) ∧ (flat3 s)[k * 3 + 1]? = some (.int .i64 s[k].a) ∧ (flat3 s)[k * 3 + 2]? = some (.int .i64 s[k].b) := by
  intro s
  induction s with
  | nil => intro k h; simp at h
  | cons x s ih =>
    intro k h
    have e : flat3 (x :: s) = cells3 x ++ flat3 s := rfl
    have hl : (cells3 x).length = 3 := rfl
    cases k with
    | zero => exact ⟨rfl, rfl, rfl⟩
    | succ k =>
      have := ih k (by simpa using h)
      rw [e, List.getElem?_append_right (by omega), List.getElem?_append_right (by omega), List.getElem?_append_right (by omega), hl, show (k + 1) * 3 - 3 = k * 3 by omega, show (k + 1) * 3 + 1 - 3 = k * 3 + 1 by omega, show (k + 1) * 3 + 2 - 3 = k * 3 + 2 by omega]
      exact this

theorem ins_of_own {w : World} {B : Nat} {v : Value} {s : List VM.In} (h : w.ownsRow B 31 3 v s.length (flat3 s)) : InsAt w.heap.size w v s := by
  have hk := h
  obtain ⟨h1, h2 | ⟨g, cap, cur, rfl, hg, hh, hn, hc, hs, ht⟩⟩ := h
  · obtain ⟨rfl, h0⟩ := h2
    obtain rfl : s = [] := List.eq_nil_of_length_eq_zero h0
    exact ⟨none, 0, rfl, Nat.le_refl _, fun h => absurd rfl h⟩
  · refine ⟨some ⟨g, 0, none⟩, cap, rfl, hn, fun _ => ⟨g, 0, rfl, lt_of_block hh, fun k h => ?_⟩⟩
    obtain ⟨k1, k2, k3⟩ := flat3_get s k h
    have c := hk.cells (g := g) rfl
    have c1 := c _ _ k1
    have c2 := c _ _ k2
    have c3 := c _ _ k3
    simp only [Addr.add_lit, Nat.zero_add] at c1 c2 c3
    simp only [Nat.zero_add]
    exact ⟨c1, c2, c3⟩

theorem info31 : (Try.prog.info? 31).map (fun i => (i.zero, i.size, i.bytes)) = some (some (.agg #[.int .i64 0, .int .i64 0, .int .i64 0]), 3, 24) := by kernel_rfl

/-- The code that is made: the struct at bd, its instructions v. -/
structure Row (B : Nat) (W : World) (bd : Nat) (sv v : Value) (xs : List VM.In) : Prop where
  low : B ≤ bd
  box_ : W.heap[bd]? = some (.cells #[sv, v] 25 (0, 0))
  own : W.ownsRow B 31 3 v xs.length (flat3 xs)

theorem Row.below {B bd : Nat} {W W' : World} {sv v : Value} {xs : List VM.In} (h : Row B W bd sv v xs) (hb : Below W.heap.size W W') : Row B W' bd sv v xs :=
  ⟨h.low, (hb.block bd (lt_of_block h.box_)).trans h.box_, own_but h.own (But.of_below hb (fun _ => False)) (fun _ _ => id)⟩

theorem Row.cells {B bd : Nat} {W : World} {sv v : Value} {xs : List VM.In} (h : Row B W bd sv v xs) : W.cell? ⟨bd, 0, none⟩ = some sv ∧ W.cell? ⟨bd, 1, none⟩ = some v ∧ ∃ ao cp, v = .slice ao xs.length cp :=
  ⟨cell_of_row W bd 0 _ _ _ h.box_, cell_of_row W bd 1 _ _ _ h.box_, own_slice h.own⟩

theorem Row.add {B bd : Nat} {W : World} {sv v : Value} {xs : List VM.In} (h : Row B W bd sv v xs) (o a b : Int) (hn : xs.length ≤ 1000) (hB : B ≤ W.heap.size) :
    ∃ v' W2, (Builtin.append_ #[23, 23] 23 #[v, .slice (some ⟨W.heap.size, 0, none⟩) 1 1]).run Try.prog (W.alloc (.cells #[.int .i64 o, .int .i64 a, .int .i64 b] 31)) = .ok v' W2 ∧ W2.frozen? ⟨bd, 1, none⟩ = false ∧ (∃ u, W2.cell? ⟨bd, 1, none⟩ = some u) ∧
      Row B (W2.setCell ⟨bd, 1, none⟩ v') bd sv v' (xs ++ [⟨o, a, b⟩]) ∧ Below B W (W2.setCell ⟨bd, 1, none⟩ v') := by
  obtain ⟨i3, hi3, hz0, hz1, hz2⟩ := info_parts info31
  have hb0 : Below W.heap.size W (W.alloc (.cells #[.int .i64 o, .int .i64 a, .int .i64 b] 31)) := (Below.refl _ W).alloc (Nat.le_refl _) _
  have R1 := h.below hb0
  have hnews : ∀ j u, (cells3 ⟨o, a, b⟩)[j]? = some u → (W.alloc (.cells #[.int .i64 o, .int .i64 a, .int .i64 b] 31)).cell? ((⟨W.heap.size, 0, none⟩ : Addr).add j) = some u := by
    intro j u hj
    rw [Addr.add_lit, Nat.zero_add, World.cell?_alloc_at _ _ _ _ rfl]
    match j, hj with
    | 0, hj => exact hj
    | 1, hj => exact hj
    | 2, hj => exact hj
    | j + 3, hj => simp [cells3] at hj
  obtain ⟨v', W2, hr, h2, h3, -⟩ := run_append_own (P := Try.prog) (W.alloc (.cells #[.int .i64 o, .int .i64 a, .int .i64 b] 31)) B 23 23 31 i3 (.agg #[.int .i64 0, .int .i64 0, .int .i64 0]) 3 24 Try.underlying23 hi3 hz0 hz1 hz2 rfl (by decide) v xs.length (flat3 xs) R1.own ⟨W.heap.size, 0, none⟩ 1 1 (cells3 ⟨o, a, b⟩) rfl hnews (fun u hu => by
    simp only [cells3, List.mem_cons, List.mem_nil_iff, or_false] at hu
    rcases hu with rfl | rfl | rfl <;> rfl) (by unfold maxLen; omega) (by omega) (by have := hb0.size; omega)
  have hvb : ∀ g, v.ownBlock = some g → B ≤ g ∧ g ≠ bd := fun g hg => by
    obtain ⟨h5, cur, hh⟩ := own_block R1.own hg
    exact ⟨h5, ne_of_types hh R1.box_ (by decide)⟩
  have hbox : W2.heap[bd]? = some (.cells #[sv, v] 25 (0, 0)) := (h3.block bd (lt_of_block R1.box_) (fun e => (hvb bd e.symm).2 rfl)).trans R1.box_
  have hnb : ∀ g, v'.ownBlock = some g → ¬ g = bd := fun g hg => by
    obtain ⟨_, cur, hh⟩ := own_block h2 hg
    exact ne_of_types hh hbox (by decide)
  have b4 : But (fun k => k = bd) W2 (W2.setCell ⟨bd, 1, none⟩ v') := (But.refl _ W2).set bd 1 _ (.inl rfl)
  have hb2 : Below B W W2 := (hb0.mono hB).trans ⟨h3.os, h3.tape, h3.output, h3.size, fun k hk => h3.block k (by have := hb0.size; omega) (fun e => by have := (hvb k e.symm).1; omega)⟩
  refine ⟨v', W2, hr, frozen_of_row W2 bd 1 _ _ hbox, ⟨v, cell_of_row W2 bd 1 _ _ _ hbox⟩, ⟨h.low, heap_setCell_same W2 bd 1 _ 25 v' hbox, ?_⟩, hb2.trans (b4.below (by have := hb2.size; omega) (fun j hj => by rw [hj]; exact h.low))⟩
  refine own_but ?_ b4 (fun g hg => hnb g hg)
  rw [List.length_append, flat3_snoc]
  exact h2

/-- What stands ahead, so far. -/
def pre (k j : Nat) : List VM.In := ⟨3, k, 0⟩ :: List.replicate (j - 1) ⟨5, 0, 0⟩

theorem pre_length {k j : Nat} (h : 1 ≤ j) : (pre k j).length = j := by simp [pre]; omega

theorem pre_snoc {k j : Nat} (h : 1 ≤ j) : pre k j ++ [⟨5, 0, 0⟩] = pre k (j + 1) := by
  obtain ⟨i, rfl⟩ : ∃ i, j = i + 1 := ⟨j - 1, by omega⟩
  unfold pre
  rw [List.cons_append, show i + 1 - 1 = i by omega, show i + 1 + 1 - 1 = i + 1 by omega, List.replicate_succ']

/-- All instructions, so far. -/
def sofar (k : Nat) (l : List VM.In) (i : Nat) : List VM.In := pre k k ++ (l.take i).map (VM.moveIn k)

theorem sofar_zero (k : Nat) (l : List VM.In) : sofar k l 0 = pre k k := by simp [sofar]

theorem sofar_length {k : Nat} (hk : 1 ≤ k) (l : List VM.In) (i : Nat) (h : i ≤ l.length) : (sofar k l i).length = k + i := by
  simp [sofar, pre_length hk]
  omega

theorem sofar_snoc (k : Nat) (l : List VM.In) (i : Nat) (h : i < l.length) : sofar k l i ++ [VM.moveIn k l[i]] = sofar k l (i + 1) := by
  unfold sofar
  rw [List.append_assoc, List.take_succ_eq_append_getElem h, List.map_append]
  rfl

theorem sofar_all (k : Nat) (c : VM.Co) : sofar k c.ins c.ins.length = (VM.moved k c).ins := by
  unfold sofar pre VM.moved
  rw [List.take_length]

theorem moveIn_split (p : Nat) (a b : Int) : VM.moveIn (p + 1) ⟨2, a, b⟩ = ⟨2, a + (1 + (p : Int)), b + (1 + (p : Int))⟩ := by
  simp [VM.moveIn]
  omega

theorem moveIn_jump (p : Nat) (a b : Int) : VM.moveIn (p + 1) ⟨3, a, b⟩ = ⟨3, a + (1 + (p : Int)), b⟩ := by
  simp [VM.moveIn]
  omega

theorem moveIn_else (k : Nat) (o a b : Int) (h2 : o ≠ 2) (h3 : o ≠ 3) : VM.moveIn k ⟨o, a, b⟩ = ⟨o, a, b⟩ := by
  simp [VM.moveIn, h2, h3]

/-- The row, when an instruction has been copied. -/
theorem Row.step {B bd : Nat} {W : World} {sv v : Value} {xs : List VM.In} (h : Row B W bd sv v xs) (hn : xs.length ≤ 1000) (hB : B ≤ W.heap.size) (o a b : Int) :
    ∃ v' W2, (Builtin.append_ #[23, 23] 23 #[v, .slice (some ⟨W.heap.size + 1, 0, none⟩) 1 1]).run Try.prog ((W.alloc (.cells #[.int .i64 o, .int .i64 a, .int .i64 b] 31)).alloc (.cells #[.int .i64 o, .int .i64 a, .int .i64 b] 31)) = .ok v' W2 ∧ W2.frozen? ⟨bd, 1, none⟩ = false ∧ (∃ u, W2.cell? ⟨bd, 1, none⟩ = some u) ∧
      Row B (W2.setCell ⟨bd, 1, none⟩ v') bd sv v' (xs ++ [⟨o, a, b⟩]) ∧ Below B W (W2.setCell ⟨bd, 1, none⟩ v') := by
  have hb0 : Below W.heap.size W (W.alloc (.cells #[.int .i64 o, .int .i64 a, .int .i64 b] 31)) := (Below.refl _ W).alloc (Nat.le_refl _) _
  have hs : (W.alloc (.cells #[.int .i64 o, .int .i64 a, .int .i64 b] 31)).heap.size = W.heap.size + 1 := by simp
  obtain ⟨v', W2, h1, h2, h3, h4, h5⟩ := (h.below hb0).add o a b hn (by omega)
  rw [hs] at h1
  exact ⟨v', W2, h1, h2, h3, h4, (hb0.mono hB).trans h5⟩

theorem pick_math (x : Int) : ∃ p : Nat, p < 9 ∧ wrap64 ((IntKind.u64.wrap x).tmod 9) = (p : Int) := by
  have h : 0 ≤ IntKind.u64.wrap x := by rw [IntKind.wrap_u64]; omega
  rw [Int.tmod_eq_emod_of_nonneg h]
  generalize IntKind.u64.wrap x = y at h
  refine ⟨(y % 9).toNat, by omega, ?_⟩
  have e : ((y % 9).toNat : Int) = y % 9 := by omega
  rw [e]
  have h1 : 0 ≤ y % 9 := by omega
  have h2 : y % 9 < 9 := by omega
  generalize y % 9 = z at h1 h2
  unfold wrap64
  omega

set_option maxRecDepth 100000 in
theorem pick_any (x : Int) (w : World) : Calls Try.prog 7 #[.int .i64 x, .int .i64 9] w fun e w' => (∃ p : Nat, p < 9 ∧ e = .returned (.int .i64 p)) ∧ w' = w := by
  go_enter Try.func7, Try.ntmps7
  go_wp2_with fail
  go_ret
  obtain ⟨p, hp, e⟩ := pick_math x
  exact ⟨⟨p, hp, ret_int e⟩, rfl⟩

end Go.Proofs.Ytddjppkpgflbjaa
