/- What stays as it was but for some blocks; instructions that were met, in memory; the contracts of noneMet, meet and forget. -/
import Derived.Test.YtddjppkpgflbjaaDoorSHas
import Derived.Test.YtddjppkpgflbjaaDoorVmMath
import Derived.Lib.AppendZeros
import Derived.Laws.AppendOwn
import Derived.OwnWalk
import Derived.Deep.OwnRows
namespace Go.Proofs.YtddjppkpgflbjaaDoor
open Go.RowKit Go.Shelf

/-- All is as it was but for the blocks of S. -/
structure But (S : Nat → Prop) (w w' : World) : Prop where
  os : w'.os = w.os
  tape : w'.tape = w.tape
  output : w'.output = w.output
  size : w.heap.size ≤ w'.heap.size
  block : ∀ k, k < w.heap.size → ¬ S k → w'.heap[k]? = w.heap[k]?

theorem But.refl (S : Nat → Prop) (w : World) : But S w w := ⟨rfl, rfl, rfl, Nat.le_refl _, fun _ _ _ => rfl⟩

theorem But.trans {S T : Nat → Prop} {a b c : World} (h : But S a b) (k : But T b c) (hT : ∀ j, T j → S j ∨ a.heap.size ≤ j) : But S a c :=
  ⟨k.os.trans h.os, k.tape.trans h.tape, k.output.trans h.output, Nat.le_trans h.size k.size, fun i hi hs => (k.block i (Nat.lt_of_lt_of_le hi h.size) (fun ht => (hT i ht).elim hs (fun h => by omega))).trans (h.block i hi hs)⟩

theorem But.alloc {S : Nat → Prop} {a b : World} (h : But S a b) (o : Obj) : But S a (b.alloc o) :=
  ⟨h.os, h.tape, h.output, Nat.le_trans h.size (by simp), fun i hi hs => (heap_alloc_old b o (Nat.lt_of_lt_of_le hi h.size)).trans (h.block i hi hs)⟩

theorem But.set {S : Nat → Prop} {a b : World} (h : But S a b) (k i : Nat) (v : Value) (hS : S k ∨ a.heap.size ≤ k) : But S a (b.setCell ⟨k, i, none⟩ v) :=
  ⟨h.os, h.tape, h.output, Nat.le_trans h.size (by simp), fun j hj hs => (heap_setCell_other b ⟨k, i, none⟩ j v (fun e => by
    have e' : j = k := e
    subst e'
    rcases hS with h | h
    · exact hs h
    · omega)).trans (h.block j hj hs)⟩

theorem But.grown {S : Nat → Prop} {a b c : World} (h : But S a b) {r : Option Nat} (hg : b.grownBy c r) (hS : ∀ k, r = some k → S k ∨ a.heap.size ≤ k) : But S a c :=
  ⟨hg.os.trans h.os, hg.tape.trans h.tape, hg.output.trans h.output, Nat.le_trans h.size hg.size, fun j hj hs => (hg.block j (Nat.lt_of_lt_of_le hj h.size) (fun e => (hS j e.symm).elim hs (fun h => by omega))).trans (h.block j hj hs)⟩

theorem But.mono {S T : Nat → Prop} {a b : World} (h : But S a b) (hS : ∀ j, S j → T j ∨ a.heap.size ≤ j) : But T a b :=
  ⟨h.os, h.tape, h.output, h.size, fun i hi ht => h.block i hi (fun hs => (hS i hs).elim ht (fun h => by omega))⟩

theorem But.below {S : Nat → Prop} {a b : World} (h : But S a b) {B : Nat} (hB : B ≤ a.heap.size) (hS : ∀ j, S j → B ≤ j) : Below B a b :=
  ⟨h.os, h.tape, h.output, h.size, fun k hk => h.block k (by omega) (fun hs => by have := hS k hs; omega)⟩

theorem But.of_below {a b : World} (h : Below a.heap.size a b) (S : Nat → Prop) : But S a b :=
  ⟨h.os, h.tape, h.output, h.size, fun k hk _ => h.block k hk⟩

/-- Blocks of other types are others. -/
theorem ne_of_types {w : World} {a b : Nat} {cs ds : Array Value} {t u : TypeId} {f g : Nat × Nat} (ha : w.heap[a]? = some (.cells cs t f)) (hb : w.heap[b]? = some (.cells ds u g)) (h : t ≠ u) : a ≠ b := by
  intro e
  subst e
  rw [ha] at hb
  cases hb
  exact h rfl

/-- Of each instruction, whether it was met. -/
def flags (n : Nat) (o : List Nat) : List Value := (List.range n).map fun i => .bool (decide (i ∈ o))

theorem flags_get (n : Nat) (o : List Nat) (i : Nat) (h : i < n) : (flags n o).toArray[i]? = some (.bool (decide (i ∈ o))) := by
  unfold flags
  simp [h]

theorem flags_set (n : Nat) (o p : List Nat) (i : Nat) (b : Bool) (hb : b = decide (i ∈ p)) (h : ∀ j, j ≠ i → (j ∈ p ↔ j ∈ o)) : (flags n o).toArray.setIfInBounds i (.bool b) = (flags n p).toArray := by
  apply Array.ext'
  simp only [Array.toList_setIfInBounds]
  apply List.ext_getElem?
  intro j
  unfold flags
  rw [List.getElem?_set]
  simp only [List.length_map, List.length_range]
  by_cases hj : i = j
  · subst hj
    by_cases hn : i < n
    · simp [hn, hb]
    · simp [hn]
  · by_cases hn : j < n
    · have := h j (fun e => hj e.symm)
      simp [hj, hn, this]
    · simp [hj, hn]

/-- Numbers as cells. -/
def nums (o : List Nat) : List Value := o.map fun (i : Nat) => .int .i64 (i : Int)

/-- The instructions that were met: the struct at m, its order v, its flags at hb. -/
structure MetAt (B : Nat) (w : World) (m hb : Nat) (v : Value) (n : Nat) (o : List Nat) : Prop where
  low : B ≤ m ∧ B ≤ hb
  struct_ : w.heap[m]? = some (.cells #[v, .slice (some ⟨hb, 0, none⟩) n n] 85 (0, 0))
  order : w.ownsRow B 3 1 v o.length (nums o)
  has : w.heap[hb]? = some (.cells (flags n o).toArray 4 (0, 0))

theorem own_block {w : World} {B : Nat} {e : TypeId} {size : Nat} {v : Value} {n : Nat} {xs : List Value} (h : w.ownsRow B e size v n xs) {g : Nat} (hg : v.ownBlock = some g) : B ≤ g ∧ ∃ cur, w.heap[g]? = some (.cells cur e (0, 0)) := by
  obtain ⟨_, ⟨rfl, _⟩ | ⟨g', cap, cur, rfl, hB, hh, _⟩⟩ := h
  · simp [Value.ownBlock] at hg
  · have : g' = g := by simpa [Value.ownBlock] using hg
    subst this
    exact ⟨hB, cur, hh⟩

theorem own_slice {w : World} {B : Nat} {e : TypeId} {size : Nat} {v : Value} {n : Nat} {xs : List Value} (h : w.ownsRow B e size v n xs) : ∃ ao cp, v = .slice ao n cp := by
  obtain ⟨_, h2 | ⟨g, cap, cur, rfl, _⟩⟩ := h
  · obtain ⟨rfl, rfl⟩ := h2
    exact ⟨_, _, rfl⟩
  · exact ⟨_, _, rfl⟩

theorem own_but {S : Nat → Prop} {w w' : World} {B : Nat} {e : TypeId} {size : Nat} {v : Value} {n : Nat} {xs : List Value} (h : w.ownsRow B e size v n xs) (hb : But S w w') (hS : ∀ g, v.ownBlock = some g → ¬ S g) : w'.ownsRow B e size v n xs := by
  obtain ⟨h1, h2 | ⟨g, cap, cur, rfl, hB, hh, rest⟩⟩ := h
  · exact ⟨h1, .inl h2⟩
  · exact ⟨h1, .inr ⟨g, cap, cur, rfl, hB, (hb.block g (lt_of_block hh) (hS g rfl)).trans hh, rest⟩⟩

/-- It stays where none of its blocks is among those that turn. -/
theorem MetAt.but {S : Nat → Prop} {B : Nat} {w w' : World} {m hb : Nat} {v : Value} {n : Nat} {o : List Nat} (h : MetAt B w m hb v n o) (hb' : But S w w') (hm : ¬ S m) (hh : ¬ S hb) (hv : ∀ g, v.ownBlock = some g → ¬ S g) : MetAt B w' m hb v n o :=
  ⟨h.low, (hb'.block m (lt_of_block h.struct_) hm).trans h.struct_, own_but h.order hb' hv, (hb'.block hb (lt_of_block h.has) hh).trans h.has⟩

/-- The blocks of what was met. -/
def Foot (m hb : Nat) (v : Value) (k : Nat) : Prop := k = m ∨ k = hb ∨ v.ownBlock = some k

theorem info3 : (Tryd.prog.info? 3).map (fun i => (i.zero, i.size, i.bytes)) = some (some (.int .i64 0), 1, 8) := by kernel_rfl

theorem append_where {P : Program} (w : World) (base : Nat) (t ty e : TypeId) (i : TypeInfo) (z : Value) (bytes : Nat) (ht : P.underlying t = some (.slice e)) (hi : P.info? e = some i) (hz : i.zero = some z)
    (hsize : i.size = 1) (hby : i.bytes = bytes) (hzs : z.cells.size = 1)
    (v : Value) (n : Nat) (xs : List Value) (hown : w.ownsRow base e 1 v n xs)
    (a : Addr) (c : Nat) (u : Value) (hu : w.cell? a = some u) (h1 : u.oneCell' = true)
    (h63 : n + 1 ≤ maxLen) (hbytes : (n + 1) * bytes ≤ 140737488355328) (hbase : base ≤ w.heap.size) :
    ∃ v' w', (Builtin.append_ #[t, t] ty #[v, .slice (some a) 1 c]).run P w = .ok v' w' ∧ w'.ownsRow base e 1 v' (n + 1) (xs ++ [u]) ∧ w.grownBy w' v.ownBlock ∧ (v'.ownBlock = v.ownBlock ∨ v'.ownBlock = some w.heap.size) := by
  have hnews : ∀ j x, [u][j]? = some x → w.cell? (a.add j) = some x := by
    intro j x hj
    match j, hj with
    | 0, hj => cases hj; simpa [Addr.add] using hu
    | j + 1, hj => simp at hj
  have h1' : ∀ x ∈ [u], x.oneCell' = true := fun x hx => by simp at hx; rw [hx]; exact h1
  obtain ⟨v', w', hr, h2, h3, _⟩ := run_append_own (P := P) w base t ty e i z 1 bytes ht hi hz hsize hby hzs (by omega) v n xs hown a 1 c [u] rfl hnews h1' h63 hbytes hbase
  refine ⟨v', w', hr, h2, h3, ?_⟩
  have hl : [u].length = 1 * i.size := by rw [hsize]; rfl
  have h63' : n + 1 ≤ 9223372036854775807 := by simp only [maxLen] at h63; omega
  rcases hown.2 with ⟨rfl, rfl⟩ | ⟨g, cap, cur, rfl, hbg, hg, hnc, hcm, hcs, htake⟩
  · have hr2 := run_append_nil (P := P) w t ty e i z ht hi hz a 1 c [u] hl hnews (by omega) (by omega) (by rw [hby]; omega)
    rw [hr2] at hr
    cases hr
    exact .inr rfl
  · by_cases hroom : n + 1 ≤ cap
    · have hr2 := run_append_room (P := P) w t ty e i ht hi g n cap cur hg a 1 c [u] hl hnews h1' hroom (by rw [hsize, hcs]; simp; omega)
      rw [hr2] at hr
      cases hr
      exact .inl rfl
    · have hr2 := run_append_grow (P := P) w t ty e i z ht hi hz ⟨g, 0, none⟩ n cap xs (by rw [hsize]; exact hown.1) (hown.cells (g := g) rfl) a 1 c [u] hl hnews (by omega) (by omega) (growslice_fits (by omega) (by rw [hby]; exact hbytes))
      rw [hr2] at hr
      cases hr
      exact .inr rfl

set_option maxHeartbeats 1000000 in
set_option maxRecDepth 100000 in
/-- meet, at one that was met. -/
theorem meet_old (B m hb : Nat) (v : Value) (n i : Nat) (o : List Nat) (w : World) (hM : MetAt B w m hb v n o) (hi : i < n) (_hn : n ≤ 100000) (ho : i ∈ o) :
    Calls Tryd.prog 44 #[.pointer (some ⟨m, 0, none⟩), .int .i64 i] w fun e w' => e = .returned (.tuple #[]) ∧ w' = w := by
  have c1 : w.cell? ⟨m, 1, none⟩ = some (.slice (some ⟨hb, 0, none⟩) n n) := cell_of_row w m 1 _ _ _ hM.struct_
  have c2 : w.cell? ⟨hb, i, none⟩ = some (.bool true) := by
    rw [cell_of_row w hb i _ _ _ hM.has, flags_get n o i hi]
    simp [ho]
  have hiz : (i : Int) < (n : Int) := by omega
  clear hM ho
  go_enter Tryd.func44, Tryd.ntmps44
  go_wp2_with fail
  go_end0
  exact ⟨rfl, rfl⟩

theorem met_low {B m hb n : Nat} {v : Value} {o : List Nat} {w : World} (hM : MetAt B w m hb v n o) : B ≤ w.heap.size := by
  have := lt_of_block hM.struct_
  have := hM.low.1
  omega

/-- What meeting a new one leaves. -/
theorem meet_world {B m hb n i : Nat} {v : Value} {o : List Nat} {w : World} (hM : MetAt B w m hb v n o) (hn : n ≤ 100000) (ho : i ∉ o) (hol : o.length ≤ n) :
    ∃ v' w2, (Builtin.append_ #[29, 29] 29 #[v, .slice (some ⟨w.heap.size, 0, none⟩) 1 1]).run Tryd.prog ((w.setCell ⟨hb, i, none⟩ (.bool true)).alloc (.cells #[.int .i64 (i : Int)] 3)) = .ok v' w2 ∧
      (∃ ao cp, v' = .slice ao (o.length + 1) cp) ∧ w2.frozen? ⟨m, 0, none⟩ = false ∧ (∃ u, w2.cell? ⟨m, 0, none⟩ = some u) ∧
      MetAt B (w2.setCell ⟨m, 0, none⟩ v') m hb v' n (VM.meet o i) ∧ But (Foot m hb v) w (w2.setCell ⟨m, 0, none⟩ v') ∧ ∀ g, v'.ownBlock = some g → v.ownBlock = some g ∨ w.heap.size ≤ g := by
  have hmh : m ≠ hb := ne_of_types hM.struct_ hM.has (by decide)
  have hvm : ∀ g, v.ownBlock = some g → g ≠ m ∧ g ≠ hb := fun g hg => by
    obtain ⟨_, cur, hh⟩ := own_block hM.order hg
    exact ⟨ne_of_types hh hM.struct_ (by decide), ne_of_types hh hM.has (by decide)⟩
  have b1 : But (fun k => k = hb) w (w.setCell ⟨hb, i, none⟩ (.bool true)) := (But.refl _ w).set hb i _ (.inl rfl)
  have b2 := b1.alloc (.cells #[.int .i64 (i : Int)] 3)
  have o2 := own_but hM.order b2 (fun g hg => (hvm g hg).2)
  have s0 : (w.setCell ⟨hb, i, none⟩ (.bool true)).heap.size = w.heap.size := by simp
  obtain ⟨i3, hi3, hz0, hz1, hz2⟩ := info_parts info3
  have hlow := met_low hM
  obtain ⟨v', w2, hr, h2, h3, h4⟩ := append_where (P := Tryd.prog) ((w.setCell ⟨hb, i, none⟩ (.bool true)).alloc (.cells #[.int .i64 (i : Int)] 3)) B 29 29 3 i3 (.int .i64 0) 8 Tryd.underlying29 hi3 hz0 hz1 hz2 rfl v o.length (nums o) o2 ⟨w.heap.size, 0, none⟩ 1 (.int .i64 (i : Int)) (by rw [World.cell?_alloc_at _ _ _ _ (by simp)]; rfl) rfl (by unfold maxLen; omega) (by omega) (by simp; omega)
  have hml := lt_of_block hM.struct_
  have hhl := lt_of_block hM.has
  have hm2 : w2.heap[m]? = some (.cells #[v, .slice (some ⟨hb, 0, none⟩) n n] 85 (0, 0)) := by
    rw [h3.block m (by simp; omega) (fun e => (hvm m e.symm).1 rfl), b2.block m hml hmh]
    exact hM.struct_
  have hh1 : (w.setCell ⟨hb, i, none⟩ (.bool true)).heap[hb]? = some (.cells (flags n (VM.meet o i)).toArray 4 (0, 0)) := by
    rw [heap_setCell_same w hb i _ 4 _ hM.has, flags_set n o (VM.meet o i) i true (by simp [VM.mem_meet]) (fun j hj => by rw [VM.mem_meet]; simp [hj])]
  have hh2 : w2.heap[hb]? = some (.cells (flags n (VM.meet o i)).toArray 4 (0, 0)) := by
    rw [h3.block hb (by simp; omega) (fun e => (hvm hb e.symm).2 rfl), heap_alloc_old _ _ (by simp; omega)]
    exact hh1
  have hnew : ∀ g, v'.ownBlock = some g → v.ownBlock = some g ∨ w.heap.size ≤ g := fun g hg => by
    rcases h4 with h4 | h4
    · exact .inl (h4.symm.trans hg)
    · rw [h4] at hg
      cases hg
      exact .inr (by simp)
  have hvm' : ∀ g, v'.ownBlock = some g → g ≠ m := fun g hg => by
    rcases hnew g hg with h | h
    · exact (hvm g h).1
    · omega
  have em : VM.meet o i = o ++ [i] := by unfold VM.meet; rw [if_neg ho]
  have b3 : But (Foot m hb v) w w2 := (b2.mono (T := Foot m hb v) (fun j hj => .inl (.inr (.inl hj)))).grown h3 (fun k hk => .inl (.inr (.inr hk)))
  have b4 : But (fun k => k = m) w2 (w2.setCell ⟨m, 0, none⟩ v') := (But.refl _ w2).set m 0 _ (.inl rfl)
  refine ⟨v', w2, hr, own_slice h2, frozen_of_row w2 m 0 _ _ hm2, ⟨v, cell_of_row w2 m 0 _ _ _ hm2⟩, ⟨hM.low, ?_, ?_, ?_⟩, ?_, hnew⟩
  · exact heap_setCell_same w2 m 0 _ 85 v' hm2
  · refine own_but ?_ b4 (fun g hg => hvm' g hg)
    rw [em]
    simpa [nums] using h2
  · rw [heap_setCell_other w2 ⟨m, 0, none⟩ hb v' (fun e => hmh e.symm)]
    exact hh2
  · exact b3.set m 0 _ (.inl (.inl rfl))

set_option maxHeartbeats 1000000 in
set_option maxRecDepth 100000 in
/-- meet, at one that was not met. -/
theorem meet_new (B m hb : Nat) (v : Value) (n i : Nat) (o : List Nat) (w : World) (hM : MetAt B w m hb v n o) (hi : i < n) (hn : n ≤ 100000) (ho : i ∉ o) (hol : o.length ≤ n) :
    Calls Tryd.prog 44 #[.pointer (some ⟨m, 0, none⟩), .int .i64 i] w fun e w' => e = .returned (.tuple #[]) ∧ ∃ v', MetAt B w' m hb v' n (VM.meet o i) ∧ But (Foot m hb v) w w' ∧ ∀ g, v'.ownBlock = some g → v.ownBlock = some g ∨ w.heap.size ≤ g := by
  have c1 : w.cell? ⟨m, 1, none⟩ = some (.slice (some ⟨hb, 0, none⟩) n n) := cell_of_row w m 1 _ _ _ hM.struct_
  have c2 : w.cell? ⟨hb, i, none⟩ = some (.bool false) := by
    rw [cell_of_row w hb i _ _ _ hM.has, flags_get n o i hi]
    simp [ho]
  have f2 : w.frozen? ⟨hb, i, none⟩ = false := frozen_of_row w hb i _ _ hM.has
  have hmh : m ≠ hb := ne_of_types hM.struct_ hM.has (by decide)
  have c3 : (w.setCell ⟨hb, i, none⟩ (.bool true)).cell? ⟨m, 0, none⟩ = some v := by
    rw [World.cell?_of_block (w := w) (a := ⟨m, 0, none⟩) (heap_setCell_other w ⟨hb, i, none⟩ m _ hmh)]
    exact cell_of_row w m 0 _ _ _ hM.struct_
  have s0 : (w.setCell ⟨hb, i, none⟩ (.bool true)).heap.size = w.heap.size := by simp
  have hiz : (i : Int) < (n : Int) := by omega
  obtain ⟨v', w2, hr, ⟨ao', cp', hv'⟩, hf, ⟨u, hu⟩, h1, h2, h3⟩ := meet_world hM hn ho hol
  obtain ⟨ao, cp, hv⟩ := own_slice hM.order
  have HH : Hid (MetAt B (w2.setCell ⟨m, 0, none⟩ v') m hb v' n (VM.meet o i) ∧ But (Foot m hb v) w (w2.setCell ⟨m, 0, none⟩ v') ∧ ∀ g, v'.ownBlock = some g → v.ownBlock = some g ∨ w.heap.size ≤ g) := ⟨h1, h2, h3⟩
  have HR : Hid ((Builtin.append_ #[29, 29] 29 #[v, .slice (some ⟨w.heap.size, 0, none⟩) 1 1]).run Tryd.prog ((w.setCell ⟨hb, i, none⟩ (.bool true)).alloc (.cells #[.int .i64 (i : Int)] 3)) = .ok v' w2) := hr
  clear hM ho h1 h2 h3 hr hol hmh
  subst hv hv'
  go_enter Tryd.func44, Tryd.ntmps44
  go_wp2_with (at_builtin; refine Lib.wpList_append_run _ rfl _ _ _ _ rfl _ _ rfl rfl _ _ HR.out ?_)
  go_wp2_with fail
  go_end0
  exact ⟨rfl, _, HH.out⟩

theorem meet_any (B m hb : Nat) (v : Value) (n i : Nat) (o : List Nat) (w : World) (hM : MetAt B w m hb v n o) (hi : i < n) (hn : n ≤ 100000) (hol : VM.Met n o) :
    Calls Tryd.prog 44 #[.pointer (some ⟨m, 0, none⟩), .int .i64 i] w fun e w' => e = .returned (.tuple #[]) ∧ ∃ v', MetAt B w' m hb v' n (VM.meet o i) ∧ But (Foot m hb v) w w' ∧ ∀ g, v'.ownBlock = some g → v.ownBlock = some g ∨ w.heap.size ≤ g := by
  by_cases ho : i ∈ o
  · refine (meet_old B m hb v n i o w hM hi hn ho).mono ?_
    rintro e w' ⟨rfl, rfl⟩
    have em : VM.meet o i = o := by unfold VM.meet; rw [if_pos ho]
    rw [em]
    exact ⟨rfl, v, hM, But.refl _ _, fun g hg => .inl hg⟩
  · exact meet_new B m hb v n i o w hM hi hn ho hol.length

end Go.Proofs.YtddjppkpgflbjaaDoor

namespace Go.Proofs.YtddjppkpgflbjaaDoor
open Go.RowKit Go.Shelf

theorem cell_lt {w : World} {a : Addr} {v : Value} (h : w.cell? a = some v) : a.block < w.heap.size := by
  rcases Nat.lt_or_ge a.block w.heap.size with h1 | h1
  · exact h1
  · simp [World.cell?, Array.getElem?_eq_none h1] at h

theorem info4 : (Tryd.prog.info? 4).map (fun i => (i.zero, i.size, i.bytes)) = some (some (.bool false), 1, 1) := by kernel_rfl

theorem flags_nil (n : Nat) : madeCells #[.bool false] n = (flags n []).toArray := by
  apply Array.ext'
  unfold madeCells flags
  apply List.ext_getElem
  · simp
  · intro i h1 h2
    simp [Nat.mod_one]

set_option maxHeartbeats 1000000 in
set_option maxRecDepth 100000 in
theorem noneMet_any (n : Nat) (w : World) (hn : n ≤ 100000) :
    Calls Tryd.prog 43 #[.int .i64 n] w fun e w' => e = .returned (.pointer (some ⟨w.heap.size + 1, 0, none⟩)) ∧ w' = (w.alloc (.cells (flags n []).toArray 4)).alloc (.cells #[.slice none 0 0, .slice (some ⟨w.heap.size, 0, none⟩) n n] 85) := by
  have hmk := run_make_row' (P := Tryd.prog) 75 4 (.bool false) 1 Tryd.underlying75 info4 rfl .i64 .i64 n (by omega) (by omega) w
  rw [flags_nil] at hmk
  go_enter Tryd.func43, Tryd.ntmps43
  go_wp2_with fail
  go_ret
  exact ⟨rfl, rfl⟩

set_option maxHeartbeats 1000000 in
set_option maxRecDepth 100000 in
theorem forget_any (B m hb : Nat) (v : Value) (n : Nat) (o : List Nat) (w : World) (hM : MetAt B w m hb v n o) (hn : n ≤ 100000) (ho : VM.Met n o) :
    Calls Tryd.prog 48 #[.pointer (some ⟨m, 0, none⟩)] w fun e w' => e = .returned (.tuple #[]) ∧ ∃ v', MetAt B w' m hb v' n [] ∧ But (fun k => k = m ∨ k = hb) w w' ∧ v'.ownBlock = v.ownBlock := by
  have hmh : m ≠ hb := ne_of_types hM.struct_ hM.has (by decide)
  have hol := ho.length
  have hvm : ∀ g, v.ownBlock = some g → g ≠ m ∧ g ≠ hb := fun g hg => by
    obtain ⟨_, cur, hh⟩ := own_block hM.order hg
    exact ⟨ne_of_types hh hM.struct_ (by decide), ne_of_types hh hM.has (by decide)⟩
  have c0 : w.cell? ⟨m, 0, none⟩ = some v := cell_of_row w m 0 _ _ _ hM.struct_
  have c1 : w.cell? ⟨m, 1, none⟩ = some (.slice (some ⟨hb, 0, none⟩) n n) := cell_of_row w m 1 _ _ _ hM.struct_
  obtain ⟨ao, cp, rfl⟩ := own_slice hM.order
  have HM : Hid (MetAt B w m hb (.slice ao o.length cp) n o) := hM
  have HV : Hid (∀ g, (Value.slice ao o.length cp).ownBlock = some g → g ≠ m ∧ g ≠ hb) := hvm
  have HO : Hid (VM.Met n o) := ho
  clear hM hvm ho
  obtain ⟨L, hL⟩ : ∃ L, L = o.length := ⟨_, rfl⟩
  have HL : Hid (L = o.length) := hL
  rw [← hL] at c0 hol
  clear hL
  go_enter Tryd.func48, Tryd.ntmps48
  go_wp2_with fail
  go_loopw [9] (fun i wr => ∃ k : Nat, k ≤ L ∧ i = .int .i64 k ∧ But (fun j => j = hb) w wr ∧ wr.heap[hb]? = some (.cells (flags n (o.drop k)).toArray 4 (0, 0))) (fun i _ => L - (intOf i).toNat)
  case atStart => exact ⟨0, Nat.zero_le _, rfl, But.refl _ _, HM.out.has⟩
  case round =>
    obtain ⟨k, hk, rfl, hb1, hh1⟩ := hrel
    have c1' : _ := (World.cell?_of_block (a := ⟨m, 1, none⟩) (hb1.block m (lt_of_block HM.out.struct_) hmh)).trans c1
    have c0' : _ := (World.cell?_of_block (a := ⟨m, 0, none⟩) (hb1.block m (lt_of_block HM.out.struct_) hmh)).trans c0
    have HB : Hid (But (fun j => j = hb) w _) := hb1
    have HH : Hid _ := hh1
    by_cases hlt : k < L
    · have hko : k < o.length := by have := HL.out; omega
      obtain ⟨g, hg, hcell⟩ : ∃ g, ao = some ⟨g, 0, none⟩ ∧ w.cell? ⟨g, k, none⟩ = some (.int .i64 (o[k] : Nat)) := by
        have hw := HM.out.order
        obtain ⟨_, ⟨h, h0⟩ | ⟨g, cap, cur, hs, _⟩⟩ := hw
        · omega
        · cases hs
          refine ⟨g, rfl, ?_⟩
          have := HM.out.order.cells (g := g) rfl k (.int .i64 (o[k] : Nat)) (by simp [nums, hko])
          simpa [Addr.add_lit] using this
      subst hg
      have hgh : g ≠ hb := (HV.out g rfl).2
      have hcell' : _ := (World.cell?_of_block (a := ⟨g, k, none⟩) (hb1.block g (cell_lt hcell) hgh)).trans hcell
      have hi : o[k] < n := HO.out.2 _ (List.getElem_mem hko)
      have hiz : ((o[k] : Nat) : Int) < (n : Int) := by omega
      have f2 : _ := frozen_of_row _ hb o[k] _ _ hh1
      have c2 : _ := (cell_of_row _ hb o[k] _ _ _ hh1).trans (flags_get n (o.drop k) o[k] hi)
      generalize decide (o[k] ∈ o.drop k) = old at c2
      have hE : Hid (o.drop k = o[k] :: o.drop (k + 1)) := List.drop_eq_getElem_cons hko
      have hnd : Hid (o[k] ∉ o.drop (k + 1)) := by
        have h1 : (o.drop k).Nodup := HO.out.1.sublist (List.drop_sublist _ _)
        rw [hE.out] at h1
        exact (List.nodup_cons.1 h1).1
      generalize o[k] = x at hcell hcell' hi hiz f2 hE hnd c2
      clear c0 c1 hcell hb1 hh1 hko
      go_wp2_with fail
      case roundEnd =>
        refine ⟨⟨k + 1, by omega, by go_num, HB.out.set hb x _ (.inl rfl), ?_⟩, by simp [intOf]; omega⟩
        rw [heap_setCell_same _ hb x _ 4 _ HH.out, flags_set n _ (o.drop (k + 1)) x false (by simp [hnd.out]) (fun j hj => by rw [hE.out]; simp [hj])]
    · have hz : o.drop k = [] := List.drop_of_length_le (by have := HL.out; omega)
      rw [hz] at HH
      have f0 : _ := frozen_of_row _ m 0 _ _ ((hb1.block m (lt_of_block HM.out.struct_) hmh).trans HM.out.struct_)
      clear c0 c1 hb1 hh1
      go_wp2_with fail
      go_end0
      have hs : _ := (HB.out.block m (lt_of_block HM.out.struct_) hmh).trans HM.out.struct_
      refine ⟨rfl, .slice ao 0 cp, ⟨HM.out.low, heap_setCell_same _ m 0 _ 85 _ hs, ?_, ?_⟩, (HB.out.mono (fun j hj => .inl (.inr hj))).set m 0 _ (.inl (.inl rfl)), ?_⟩
      · have b4 : But (fun k => k = m) wr (wr.setCell ⟨m, 0, none⟩ (.slice ao 0 cp)) := (But.refl _ wr).set m 0 _ (.inl rfl)
        have h1 := own_but (own_but HM.out.order HB.out (fun g hg => (HV.out g hg).2)) b4 (fun g hg => (HV.out g hg).1)
        obtain ⟨_, ⟨hv, h0⟩ | ⟨g, cap, cur, hv, hB, hh, h2, h3, h4, h5⟩⟩ := h1
        · simp only [Value.slice.injEq] at hv
          obtain ⟨rfl, _, rfl⟩ := hv
          exact ⟨rfl, .inl ⟨rfl, rfl⟩⟩
        · cases hv
          exact ⟨rfl, .inr ⟨g, cp, cur, rfl, hB, hh, Nat.zero_le _, h3, h4, rfl⟩⟩
      · rw [heap_setCell_other _ ⟨m, 0, none⟩ hb _ (fun e => hmh e.symm)]
        exact HH.out
      · cases ao <;> rfl

end Go.Proofs.YtddjppkpgflbjaaDoor
