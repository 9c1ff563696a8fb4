/- mean: many: what is asked too often is worked out place by place. -/
import Derived.Test.YtjbdlihlcoldlaaGreatDoorG06
import Derived.Test.YtjbdlihlcoldlaaGreatDoorG03
namespace Go.Proofs.YtjbdlihlcoldlaaGreatDoor.M
open Go.RowKit Go.Shelf

theorem parts_set {S : Wk} {H : Gh} {W : World} {b : Nat} {t : Ty} (hI : Inv S H W) (hb : H b = some t) (j : Nat) (u : Value) {v : Value} {vs : List Value} (h : PartsAt W v vs) : PartsAt (W.setCell ⟨b, j, none⟩ u) v vs := by
  obtain ⟨ao, cap, rfl, h1, h2, h3⟩ := h
  refine ⟨ao, cap, rfl, h1, h2, fun hne => ?_⟩
  obtain ⟨ab, arr, rfl, h4, h5⟩ := h3 hne
  refine ⟨ab, arr, rfl, ?_, h5⟩
  have hn := hI.tag h4 (by decide) (by decide)
  rw [heap_setCell_other W ⟨b, j, none⟩ ab u (by rintro rfl; rw [hb] at hn; cases hn)]
  exact h4

theorem pl_set {S : Wk} {H : Gh} {W : World} {b : Nat} {t : Ty} (hI : Inv S H W) (hb : H b = some t) (j : Nat) (u : Value) {v : Value} {q : Nat} (h : Pl W.heap.size W v q) : Pl (W.setCell ⟨b, j, none⟩ u).heap.size (W.setCell ⟨b, j, none⟩ u) v q := by
  obtain ⟨c, rfl, h1, h2, h3⟩ := h
  have hn := hI.word h2
  have hne : c ≠ b := by rintro rfl; rw [hb] at hn; cases hn
  exact ⟨c, rfl, by simpa using h1, (World.cell?_of_block (a := ⟨c, 0, none⟩) (heap_setCell_other W ⟨b, j, none⟩ c u hne)).trans h2, h3⟩

theorem Ext.set {S : Wk} {r : Nat} {w W : World} {G H : Gh} {b : Nat} {t : Ty} {j : Nat} {u : Value} (hx : Ext S r w G W H) (hb : H b = some t) (hr : rank t < r) (hi : Is S H (W.setCell ⟨b, j, none⟩ u) b t) : Ext S r w G (W.setCell ⟨b, j, none⟩ u) H := by
  have h8 := hx.inv.ge hb
  refine ⟨hx.low.setCell (p := ⟨b, j, none⟩) (by exact h8) u, hx.old, hx.more, fun k hk hg => ?_, fun k x hg hk => ?_, hx.inv.turn (by simp) (fun k hk hg => ?_) (fun k x hg => ?_)⟩
  · have hn := hx.old k hk hg
    have hne : k ≠ b := by rintro rfl; rw [hb] at hn; cases hn
    rw [heap_setCell_other W ⟨b, j, none⟩ k u hne]
    exact hx.kept k hk hg
  · have hm := hx.more k x hg
    have hne : k ≠ b := by
      rintro rfl
      rw [hb] at hm
      cases hm
      omega
    rw [heap_setCell_other W ⟨b, j, none⟩ k u hne]
    exact hx.high k x hg hk
  · have hne : k ≠ b := by rintro rfl; rw [hb] at hg; cases hg
    exact heap_setCell_other W ⟨b, j, none⟩ k u hne
  · by_cases hne : k = b
    · subst hne
      rw [hb] at hg
      cases hg
      exact .inr hi
    · exact .inl (heap_setCell_other W ⟨b, j, none⟩ k u hne)

theorem many_asked {S : Wk} {H : Gh} {W : World} {b : Nat} {ps : MN.Q} {l : Nat} {h : Int} (hI : Inv S H W) (hb : H b = some (.path (.many ps l h))) (a : Int) (ha : -9223372036854775808 ≤ a ∧ a ≤ 9223372036854775807) :
    Is S H (W.setCell ⟨b, 5, none⟩ (.int .i64 a)) b (.path (.many ps l h)) := by
  obtain ⟨code, uv, pv, lo, hi, asked, kv, hnode, rfl, rfl, rfl, h1, h2, h3, _, ⟨vs, hp, hr⟩, hk⟩ := hI.is hb
  exact ⟨6, uv, pv, _, _, a, kv, heap_setCell_same W b 5 _ 229 _ hnode, rfl, rfl, rfl, h1, h2, h3, ha, ⟨vs, parts_set hI hb _ _ hp, hr⟩, hk⟩

theorem many_known {S : Wk} {H : Gh} {W : World} {b : Nat} {ps : MN.Q} {l : Nat} {h : Int} (hI : Inv S H W) (hb : H b = some (.path (.many ps l h))) (kv' : Value) (hkv : KvOk S H (.many ps l h) kv') :
    Is S H (W.setCell ⟨b, 6, none⟩ kv') b (.path (.many ps l h)) := by
  obtain ⟨code, uv, pv, lo, hi, asked, kv, hnode, rfl, rfl, rfl, h1, h2, h3, ha, ⟨vs, hp, hr⟩, hk⟩ := hI.is hb
  exact ⟨6, uv, pv, _, _, asked, kv', heap_setCell_same W b 6 _ 229 _ hnode, rfl, rfl, rfl, h1, h2, h3, ha, ⟨vs, parts_set hI hb _ _ hp, hr⟩, hkv⟩

theorem known_put {S : Wk} {H : Gh} {W : World} {kb : Nat} {q : MN.Q} (hI : Inv S H W) (hb : H kb = some (.known q)) (i : Nat) (u : Value) (hu : Pl W.heap.size W u ((S.ev q).1 (2 ^ i))) :
    Is S H (W.setCell ⟨kb, i, none⟩ u) kb (.known q) := by
  obtain ⟨vs, h1, h2, h3⟩ := hI.is hb
  refine ⟨vs.set i u, by rw [List.length_set, h1], ?_, fun j v hv => ?_⟩
  · have := heap_setCell_same W kb i _ 110 u h2
    simpa using this
  · rw [List.getElem?_set] at hv
    split at hv
    · rename_i hij
      subst hij
      split at hv
      · cases hv
        exact .inr (pl_set hI hb _ _ hu)
      · cases hv
    · rcases h3 j v hv with h4 | h4
      · exact .inl h4
      · exact .inr (pl_set hI hb _ _ h4)

theorem Ext.grow {S : Wk} {r : Nat} {w W : World} {G H : Gh} {kb : Nat} {t : Ty} (hx : Ext S r w G W H) (hn : H kb = none) (hkb : w.heap.size ≤ kb) (h8 : 8 ≤ kb) (hi : Is S H W kb t) : Ext S r w G W (H.put kb t) :=
  ⟨hx.low, fun b hb hg => by rw [Gh.put_other _ _ (by omega)]; exact hx.old b hb hg, fun b x hg => Gh.put_of hn (hx.more b x hg), hx.kept, hx.high, hx.inv.grow hn h8 hi⟩

theorem known_nil_yes (w : World) : (binOp BinOp.eql 227 (.slice none 0 0) (.slice none 0 0)).run Tryz.prog w = .ok (.bool true) w := by kernel_rfl
theorem known_nil_no (a : Addr) (n cap : Nat) (w : World) : (binOp BinOp.eql 227 (.slice (some a) n cap) (.slice none 0 0)).run Tryz.prog w = .ok (.bool false) w := by kernel_rfl
theorem place_nil_yes (w : World) : (binOp BinOp.eql 110 (.slice none 0 0) (.slice none 0 0)).run Tryz.prog w = .ok (.bool true) w := by kernel_rfl
theorem place_nil_no (a : Addr) (n cap : Nat) (w : World) : (binOp BinOp.eql 110 (.slice (some a) n cap) (.slice none 0 0)).run Tryz.prog w = .ok (.bool false) w := by kernel_rfl

/-- What the making of a Many's memory needs. -/
def MkS (b3 b4 wb b n : Nat) (W : World) : Prop :=
  W.cell? ⟨b3, 0, none⟩ = some (.pointer (some ⟨wb, 0, none⟩)) ∧ W.cell? ⟨b4, 0, none⟩ = some (.pointer (some ⟨b, 0, none⟩)) ∧ W.cell? ⟨wb, 2, none⟩ = some (.int .i64 (n : Nat))

theorem cell_alloc_old' {w : World} {o : Obj} {a : Addr} {v : Value} (h : w.cell? a = some v) : (w.alloc o).cell? a = some v :=
  (World.cell?_of_block (w := w) (a := a) (heap_alloc_old _ _ (cell_lt h))).trans h

theorem cell_set_other {w : World} {b j : Nat} {u : Value} {a : Addr} (h : a.block ≠ b) : (w.setCell ⟨b, j, none⟩ u).cell? a = w.cell? a :=
  World.cell?_of_block (w := w) (a := a) (heap_setCell_other w ⟨b, j, none⟩ a.block u h)

theorem MkS.alloc {b3 b4 wb b n : Nat} {W : World} (h : MkS b3 b4 wb b n W) (o : Obj) : MkS b3 b4 wb b n (W.alloc o) := by
  obtain ⟨h1, h2, h3⟩ := h
  exact ⟨cell_alloc_old' h1, cell_alloc_old' h2, cell_alloc_old' h3⟩

theorem MkS.store {b3 b4 wb b n : Nat} {W : World} (h : MkS b3 b4 wb b n W) (h6 : b ≠ b3) (h7 : b ≠ b4) (h8 : b ≠ wb) (u : Value) : MkS b3 b4 wb b n (W.setCell ⟨b, 6, none⟩ u) := by
  obtain ⟨h1, h2, h3⟩ := h
  exact ⟨(cell_set_other (by exact h6.symm)).trans h1, (cell_set_other (by exact h7.symm)).trans h2, (cell_set_other (by exact h8.symm)).trans h3⟩

theorem info110' : (Tryz.prog.info? 110).map (fun i => (i.zero, i.size, i.bytes)) = some (some (.slice none 0 0), 1, 24) := by kernel_rfl

theorem madeCells_one (z : Value) (n : Nat) : madeCells #[z] n = (List.replicate n z).toArray := by
  apply Array.ext
  · simp [madeCells]
  · intro i h1 h2
    simp [madeCells, Nat.mod_one]

/-- Whither it goes from places that were come to one by one. -/
def acc (F : Nat → Nat) (l : List Nat) : Nat := l.foldl (fun a x => a ||| F (2 ^ x)) 0

theorem acc_nil (F : Nat → Nat) : acc F [] = 0 := rfl

theorem acc_snoc (F : Nat → Nat) (l : List Nat) (x : Nat) : acc F (l ++ [x]) = acc F l ||| F (2 ^ x) := by
  unfold acc
  rw [List.foldl_append]
  rfl

theorem acc_cons (F : Nat → Nat) (l : List Nat) (x : Nat) : acc F (x :: l) = F (2 ^ x) ||| acc F l := by
  have key : ∀ (l : List Nat) (a b : Nat), l.foldl (fun a x => a ||| F (2 ^ x)) (a ||| b) = a ||| l.foldl (fun a x => a ||| F (2 ^ x)) b := by
    intro l
    induction l with
    | nil => intro a b; rfl
    | cons y l ih => intro a b; rw [List.foldl_cons, List.foldl_cons, MN.or_assoc, ih]
  unfold acc
  rw [List.foldl_cons, Nat.zero_or]
  have := key l (F (2 ^ x)) 0
  rwa [Nat.or_zero] at this

theorem acc_spots {F : Nat → Nat} (hF : MN.Add F) : ∀ q, q < 2 ^ 64 → acc F (spots 64 q) = F q := by
  intro q
  induction q using Nat.strongRecOn with
  | ind q ih =>
    intro hq
    by_cases h0 : q = 0
    · subst h0
      rw [spots_zero, hF.zero]
      rfl
    · obtain ⟨i, hi, hl⟩ := exists_lowest 64 q hq h0
      have hlt := strip_lt hl
      rw [spots_strip hl 64 hi, acc_cons, ih _ hlt (by omega), ← hF.or, ← strip_or hl]

theorem spots_bit : ∀ (q : Nat), q < 2 ^ 64 → ∀ x ∈ spots 64 q, q.testBit x = true := by
  intro q
  induction q using Nat.strongRecOn with
  | ind q ih =>
    intro hq x hx
    by_cases h0 : q = 0
    · subst h0
      rw [spots_zero] at hx
      cases hx
    · obtain ⟨i, hi, hl⟩ := exists_lowest 64 q hq h0
      have hlt := strip_lt hl
      rw [spots_strip hl 64 hi] at hx
      rcases List.mem_cons.1 hx with rfl | hx
      · exact hl.1
      · have := ih _ hlt (by omega) x hx
        rw [strip_bit hl] at this
        simp at this
        exact this.1

theorem bit_lt {q x n : Nat} (hq : q < 2 ^ n) (hb : q.testBit x = true) : x < n := by
  rcases Nat.lt_or_ge x n with h | h
  · exact h
  · rw [Nat.testBit_lt_two_pow (Nat.lt_of_lt_of_le hq (Nat.pow_le_pow_right (by omega) h))] at hb
    cases hb

theorem mask_one {x n : Nat} (hx : x < n) : mask (fun i => decide (i = x)) n = 2 ^ x := by
  refine Nat.eq_of_testBit_eq fun i => ?_
  rw [mask_bit, Nat.testBit_two_pow]
  by_cases h : i = x
  · subst h; simp [hx]
  · have h2 : ¬ x = i := fun e => h e.symm
    simp [h, h2]

/-- The rounds' state: what has been worked out, and what has come of it. -/
def ManI (S : Wk) (r : Nat) (Wc : World) (H : Gh) (b OB EB : Nat) (cv : Value) (F : Nat → Nat) (pre : List Nat) (W : World) : Prop :=
  ∃ K v, Ext S r Wc H W K ∧ W.heap[OB]? = some (.cells #[v] 110 (0, 0)) ∧ K OB = none ∧ K EB = none ∧ Pl W.heap.size W v (acc F pre) ∧ EB < W.heap.size ∧ W.cell? ⟨b, 6, none⟩ = some cv

theorem not_word_of_free {W : World} {k : Nat} {o : Obj} (h : W.heap[k]? = some o) (ho : o.isCells = false) : (∀ q : Nat, W.cell? ⟨k, 0, none⟩ ≠ some (.int .u64 q)) ∧ ∀ arr : Array Value, W.heap[k]? ≠ some (.cells arr 157 (0, 0)) := by
  refine ⟨fun q hc => ?_, fun arr ha => ?_⟩
  · cases o <;> simp [World.cell?, h] at hc
    cases ho
  · rw [h] at ha
    cases ha
    cases ho

theorem ManI.row {S : Wk} {r : Nat} {Wc : World} {H : Gh} {b OB EB : Nat} {cv : Value} {F : Nat → Nat} {pre : List Nat} {A A' : World} {row : Option Nat} {B : Nat} (h : ManI S r Wc H b OB EB cv F pre A) (hg : A.grownBy A' row)
    (h8 : 8 ≤ Wc.heap.size) (hO : OB < B) (hB : Wc.heap.size ≤ B) (hr : ∀ k, row = some k → B ≤ k ∧ ∃ o : Obj, A.heap[k]? = some o ∧ o.isCells = false) : ManI S r Wc H b OB EB cv F pre A' := by
  obtain ⟨K, v, h1, h2, h3, h4, h5, h6, h7⟩ := h
  refine ⟨K, v, h1.row h8 hg fun k e => ?_, ?_, h3, h4, h5.row hg fun k e => ?_, Nat.lt_of_lt_of_le h6 hg.size, ?_⟩
  · obtain ⟨k1, o, k2, k3⟩ := hr k e
    exact ⟨by omega, h1.inv.free k2 k3, not_word_of_free k2 k3⟩
  · rw [hg.block OB (lt_of_block h2) (fun e => by have := (hr _ e.symm).1; omega)]
    exact h2
  · obtain ⟨k1, o, k2, k3⟩ := hr k e
    exact (not_word_of_free k2 k3).1
  · refine (World.cell?_of_block (w := A) (a := ⟨b, 6, none⟩) (hg.block b (cell_lt h7) (fun e => ?_))).trans h7
    obtain ⟨_, o, k2, k3⟩ := hr b e.symm
    have h7' := h7
    cases o <;> simp [World.cell?, k2] at h7'
    cases k3

theorem ManI_calm {S : Wk} {r : Nat} {Wc : World} {H : Gh} {b OB EB : Nat} {cv : Value} {F : Nat → Nat} {B : Nat} (h8 : 8 ≤ Wc.heap.size) (hO : OB < B) (hB : Wc.heap.size ≤ B) : RFC.Calm B (ManI S r Wc H b OB EB cv F) :=
  fun _ _ _ _ hs hg hr => ManI.row hs hg h8 hO hB hr

/-- A round's own variable: its place, in a box. -/
def ManA (EB : Nat) (T : Array Value) (x : Nat) (a' : Act) (W : World) : Prop :=
  ∃ PB, EB < PB ∧ W.heap[PB]? = some (.cells #[.int .i64 (x : Nat)] 3 (0, 0)) ∧ a' = { tmps := (T.setIfInBounds 49 (.int .i64 (x : Nat))).setIfInBounds 8 (.pointer (some ⟨PB, 0, none⟩)), defers := [] }

theorem ManA_calm {EB B : Nat} {T : Array Value} (a' : Act) : RFC.Calm B (fun x W => ManA EB T x a' W) := by
  rintro x A A' row ⟨PB, h1, h2, h3⟩ hg hr
  refine ⟨PB, h1, ?_, h3⟩
  rw [hg.block PB (lt_of_block h2) (fun e => ?_)]
  · exact h2
  · obtain ⟨_, _, k2, k3⟩ := hr PB e.symm
    rw [h2] at k2
    cases k2
    cases k3

theorem Ext.keepsFrom {S : Wk} {r : Nat} {w w' : World} {G G' : Gh} (hI : Inv S G w) (hx : Ext S r w G w' G') (B : Nat) : KeepsFrom B w w' :=
  ⟨hx.low.size, fun k _ _ hk ho => (hx.kept k (lt_of_block hk) (hI.free hk ho)).trans hk⟩

/-- What a round's operations load. -/
def RdS (b3 b4 wb b kb PB n x : Nat) (W : World) : Prop :=
  W.cell? ⟨b3, 0, none⟩ = some (.pointer (some ⟨wb, 0, none⟩)) ∧ W.cell? ⟨b4, 0, none⟩ = some (.pointer (some ⟨b, 0, none⟩)) ∧ W.cell? ⟨wb, 2, none⟩ = some (.int .i64 (n : Nat)) ∧ W.cell? ⟨b, 6, none⟩ = some (.slice (some ⟨kb, 0, none⟩) n n) ∧ W.cell? ⟨PB, 0, none⟩ = some (.int .i64 (x : Nat))

theorem cell_below {W W' : World} {a : Addr} {v : Value} (h : W.cell? a = some v) (hb : Below W.heap.size W W') : W'.cell? a = some v := (World.cell?_of_block (w := W) (a := a) (hb.block _ (cell_lt h))).trans h

theorem RdS.below {b3 b4 wb b kb PB n x : Nat} {W W' : World} (h : RdS b3 b4 wb b kb PB n x W) (hb : Below W.heap.size W W') : RdS b3 b4 wb b kb PB n x W' :=
  ⟨cell_below h.1 hb, cell_below h.2.1 hb, cell_below h.2.2.1 hb, cell_below h.2.2.2.1 hb, cell_below h.2.2.2.2 hb⟩

theorem RdS.set {b3 b4 wb b kb PB n x : Nat} {W : World} (h : RdS b3 b4 wb b kb PB n x W) (h1 : b3 ≠ kb) (h2 : b4 ≠ kb) (h3 : wb ≠ kb) (h4 : b ≠ kb) (h5 : PB ≠ kb) (j : Nat) (u : Value) : RdS b3 b4 wb b kb PB n x (W.setCell ⟨kb, j, none⟩ u) :=
  ⟨(cell_set_other (by exact h1)).trans h.1, (cell_set_other (by exact h2)).trans h.2.1, (cell_set_other (by exact h3)).trans h.2.2.1, (cell_set_other (by exact h4)).trans h.2.2.2.1, (cell_set_other (by exact h5)).trans h.2.2.2.2⟩

theorem enter213 (args : Array Value) (w : World) : (callFunc 213 args).run Tryz.prog w = .ok (.enter 213 args) w := by kernel_rfl
theorem enter192 (args : Array Value) (w : World) : (callFunc 192 args).run Tryz.prog w = .ok (.enter 192 args) w := by kernel_rfl

set_option maxHeartbeats 1000000 in
theorem ask_place (i x PB : Nat) (w : World) (hc : w.cell? ⟨PB, 0, none⟩ = some (.int .i64 x)) :
    Calls Tryz.prog 192 (#[.int .i64 i] ++ #[.pointer (some ⟨PB, 0, none⟩)]) w fun e w' => e = .returned (.bool (decide (i = x))) ∧ Below w.heap.size w w' := by
  show Calls Tryz.prog 192 #[.int .i64 i, .pointer (some ⟨PB, 0, none⟩)] w _
  go_enter Tryz.func192, Tryz.ntmps192
  go_wp2_with fail
  go_ret
  refine ⟨?_, Below.refl _ _⟩
  have : ((i : Int) == (x : Int)) = decide (i = x) := by
    by_cases h : i = x
    · subst h; simp
    · have h2 : ¬ (i : Int) = (x : Int) := by omega
      simp [h, h2]
  simp [this]

theorem wrap64_range (x : Int) : -9223372036854775808 ≤ wrap64 x ∧ wrap64 x ≤ 9223372036854775807 := by
  unfold wrap64
  omega

attribute [local irreducible] spots acc
attribute [local go_sem] Oper.semAt_some

set_option maxHeartbeats 8000000 in
set_option maxRecDepth 100000 in
theorem many_any (S : Wk) (ps : MN.Q) (l : Nat) (h : Int) (hE : Each (FromC S) ps) (hLw : Each (LowN S) ps) : ManyC S ps l h := by
  intro G w wb b sv s hI hW hT hg hs hsn
  have h8 := hW.size
  have hnodeI := hI.is hg
  obtain ⟨code, uv, pv, lo, hi, asked, kv, hnode, rfl, rfl, rfl, -, -, -, hask, -, hkv⟩ := hnodeI
  have hb1 : Below w.heap.size w ((w.alloc (.cells #[.pointer (some ⟨wb, 0, none⟩)] 225)).alloc (.cells #[.pointer (some ⟨b, 0, none⟩)] 157)) := ((Below.refl _ w).alloc (Nat.le_refl _) _).alloc (by simp) _
  have hlt := lt_of_block hnode
  have hn1 : ((w.alloc (.cells #[.pointer (some ⟨wb, 0, none⟩)] 225)).alloc (.cells #[.pointer (some ⟨b, 0, none⟩)] 157)).heap[b]? = _ := (hb1.block b hlt).trans hnode
  have c5 := cell_of_row _ b 5 _ _ _ hn1
  have f5 := frozen_of_row _ b 5 _ _ hn1
  have hx2 : Ext S (qs ps + 2) w G (w.setCell ⟨b, 5, none⟩ (.int .i64 (wrap64 (asked + 1)))) G := (Ext.refl hI).set hg (by show qs ps + 1 < qs ps + 2; omega) (many_asked hI hg _ (wrap64_range _))
  have hn2 : (w.setCell ⟨b, 5, none⟩ (.int .i64 (wrap64 (asked + 1)))).heap[b]? = some (.cells #[.int .i64 (6 : Nat), uv, pv, .int .i64 (l : Nat), .int .i64 hi, .int .i64 (wrap64 (asked + 1)), kv] 229 (0, 0)) := heap_setCell_same w b 5 _ 229 _ hnode
  obtain ⟨W1, hW1⟩ : ∃ W1, W1 = ((w.setCell ⟨b, 5, none⟩ (.int .i64 (wrap64 (asked + 1)))).alloc (.cells #[.pointer (some ⟨wb, 0, none⟩)] 225)).alloc (.cells #[.pointer (some ⟨b, 0, none⟩)] 157) := ⟨_, rfl⟩
  have hb2 : Below (w.setCell ⟨b, 5, none⟩ (.int .i64 (wrap64 (asked + 1)))).heap.size (w.setCell ⟨b, 5, none⟩ (.int .i64 (wrap64 (asked + 1)))) W1 := by rw [hW1]; exact ((Below.refl _ _).alloc (Nat.le_refl _) _).alloc (by simp) _
  have hxW : Ext S (qs ps + 2) w G W1 G := hx2.trans (Ext.below hx2.inv (by simpa using h8) hb2)
  have hs1 : W1.heap.size = w.heap.size + 2 := by rw [hW1]; simp
  have k4 : W1.heap[w.heap.size + 1]? = some (.cells #[.pointer (some ⟨b, 0, none⟩)] 157 (0, 0)) := by
    rw [hW1]
    have := heap_alloc_new ((w.setCell ⟨b, 5, none⟩ (.int .i64 (wrap64 (asked + 1)))).alloc (.cells #[.pointer (some ⟨wb, 0, none⟩)] 225)) (.cells #[.pointer (some ⟨b, 0, none⟩)] 157)
    simpa using this
  have k3 : W1.heap[w.heap.size]? = some (.cells #[.pointer (some ⟨wb, 0, none⟩)] 225 (0, 0)) := by
    rw [hW1]
    have := heap_alloc_new (w.setCell ⟨b, 5, none⟩ (.int .i64 (wrap64 (asked + 1)))) (.cells #[.pointer (some ⟨wb, 0, none⟩)] 225)
    rw [heap_alloc_old _ _ (by simp)]
    simpa using this
  have kb : W1.heap[b]? = some (.cells #[.int .i64 (6 : Nat), uv, pv, .int .i64 (l : Nat), .int .i64 hi, .int .i64 (wrap64 (asked + 1)), kv] 229 (0, 0)) := (hb2.block b (by simpa using hlt)).trans hn2
  have hW1w := hW.ext hI hxW
  have hT1 := tz_ext hT hxW
  have hs2 := hs.ext hI hxW
  obtain ⟨_, hn1S, hn64, wu, wm, wa, we, hwb, -⟩ := hW1w
  have HB : Hid (∀ (r : Nat) (W : World) (H : Gh), Ext S r W1 G W H → W.cell? ⟨w.heap.size, 0, none⟩ = some (.pointer (some ⟨wb, 0, none⟩)) ∧ W.cell? ⟨w.heap.size + 1, 0, none⟩ = some (.pointer (some ⟨b, 0, none⟩)) ∧ W.cell? ⟨wb, 2, none⟩ = some (.int .i64 S.n)) := by
    intro r W H hx
    refine ⟨?_, ?_, ?_⟩
    · exact cell_of_row W _ 0 _ _ _ ((hx.kept _ (by omega) (hxW.inv.tag k3 (by decide) (by decide))).trans k3)
    · exact cell_of_row W _ 0 _ _ _ ((hx.kept _ (by omega) (hxW.inv.tag k4 (by decide) (by decide))).trans k4)
    · exact cell_of_row W _ 2 _ _ _ ((hx.kept _ (lt_of_block hwb) (hxW.inv.tag hwb (by decide) (by decide))).trans hwb)
  have HI1 : Hid (Inv S G W1 ∧ WalkAt S W1 wb ∧ TZ64 W1 ∧ Pl W1.heap.size W1 sv s ∧ G b = some (.path (.many ps l hi)) ∧ W1.heap.size = w.heap.size + 2 ∧ KvOk S G (.many ps l hi) kv) := ⟨hxW.inv, hW.ext hI hxW, hT1, hs2, hg, hs1, hkv⟩
  have HKB : Hid (W1.heap[b]? = some (.cells #[.int .i64 (6 : Nat), uv, pv, .int .i64 (l : Nat), .int .i64 hi, .int .i64 (wrap64 (asked + 1)), kv] 229 (0, 0))) := kb
  have HXW : Hid (Ext S (qs ps + 2) w G W1 G) := hxW
  have HGN : Hid (G w.heap.size = none ∧ G (w.heap.size + 1) = none ∧ G wb = none ∧ wb < W1.heap.size ∧ W1.heap.size = w.heap.size + 2) := ⟨hxW.inv.tag k3 (by decide) (by decide), hxW.inv.tag k4 (by decide) (by decide), hxW.inv.tag hwb (by decide) (by decide), lt_of_block hwb, hs1⟩
  have HE : Hid (Each (FromC S) ps) := hE
  have HSN : Hid (1 ≤ S.n ∧ S.n ≤ 64 ∧ 8 ≤ w.heap.size) := ⟨hn1S, hn64, h8⟩
  have HRep : Hid (∀ (W : World) (H : Gh) (v : Value) (q : Nat), (∀ x t, G x = some t → H x = some t) → Inv S H W → WalkAt S W wb → TZ64 W → Pl W.heap.size W v q → q < 2 ^ S.n → Calls Tryz.prog 190 #[.pointer (some ⟨wb, 0, none⟩), .pointer (some ⟨b, 0, none⟩), v] W (Out S (qs ps + 1) H W (MN.rep (S.ev ps).2.1 l hi q))) :=
    fun W H v q hm h1 h2 h3 h4 h5 => repeat_any S ps l hi hE hLw H W wb b v q h1 h2 h3 (hm _ _ hg) h4 h5
  have HSL : Hid (s < 2 ^ S.n) := hsn
  have hAdd : MN.Add (MN.rep (S.ev ps).2.1 l hi) := MN.add_rep (MN.ev_add S.ends S.e ps).2.1 l hi
  have HAdd : Hid (MN.Add (MN.rep (S.ev ps).2.1 l hi)) := hAdd
  have HF : Hid ((S.ev (.many ps l hi)).1 = MN.rep (S.ev ps).2.1 l hi) := rfl
  obtain ⟨sb, rfl, -⟩ := hs
  refine callsIn_wide.1 (callsIn_of_wp_marks (n := 9) Tryz.func136 rfl trivial ?_ rfl)
  simp only [Tryz.ntmps136, List.size_toArray, List.length_cons, List.length_nil, Nat.reduceAdd, Nat.reduceSub, Array.replicate_succ, Array.replicate_zero, List.push_toArray, List.append_toArray, List.nil_append, List.cons_append]
  refine wpIn_wide.2 ?_
  go_wp2_with fail
  rw [← hW1]
  obtain ⟨k3c, k4c, kwc⟩ := HB.out 0 W1 G (Ext.refl hxW.inv)
  have kbc : W1.cell? ⟨b, 5, none⟩ = some (.int .i64 (wrap64 (asked + 1))) := cell_of_row W1 b 5 _ _ _ kb
  obtain ⟨a1, ha1⟩ : ∃ a, a = wrap64 (asked + 1) := ⟨_, rfl⟩
  have hS : W1.drew.cell? ⟨w.heap.size, 0, none⟩ = some (.pointer (some ⟨wb, 0, none⟩)) ∧ W1.drew.cell? ⟨w.heap.size + 1, 0, none⟩ = some (.pointer (some ⟨b, 0, none⟩)) ∧ W1.drew.cell? ⟨b, 5, none⟩ = some (.int .i64 (wrap64 (asked + 1))) ∧ W1.drew.cell? ⟨wb, 2, none⟩ = some (.int .i64 S.n) := ⟨k3c, k4c, kbc, kwc⟩
  rw [← ha1] at hS ⊢
  clear hnode hn1 hn2 hx2 hb1 hb2 c5 f5 hW1 k3 k4 kb hxW hT1 hwb hI hW hT hg hkv hask k3c k4c kbc kwc hs1 hs2 hE hAdd ha1
  go_region_held3 (fun W => W.cell? ⟨w.heap.size, 0, none⟩ = some (.pointer (some ⟨wb, 0, none⟩)) ∧ W.cell? ⟨w.heap.size + 1, 0, none⟩ = some (.pointer (some ⟨b, 0, none⟩)) ∧ W.cell? ⟨b, 5, none⟩ = some (.int .i64 a1) ∧ W.cell? ⟨wb, 2, none⟩ = some (.int .i64 S.n)) (assumption) ((fail))
  have HX2 : Hid (Ext S (qs ps + 2) W1 G W1.drew G) := Ext.below HI1.out.1 (by have := HI1.out.2.2.2.2.2.1; omega) ((Below.refl _ W1).drew)
  have HKB2 : Hid (W1.drew.heap[b]? = _) := HKB.out
  clear HKB hS
  generalize W1.drew = W2 at *
  obtain ⟨e3, e4, e2⟩ := HB.out _ W2 G HX2.out
  by_cases hle : a1 ≤ (S.n : Int)
  · have C := HRep.out W2 G (.slice (some ⟨sb, 0, none⟩) 1 1) s (fun _ _ h => h) HX2.out.inv (HI1.out.2.1.ext HI1.out.1 HX2.out) (tz_ext HI1.out.2.2.1 HX2.out) (HI1.out.2.2.2.1.ext HI1.out.1 HX2.out) HSL.out
    go_wp2_with fail
    refine C.mono ?_
    rintro e w3 ⟨v, H3, rfl, hx3, hv⟩
    have HO : Hid (Out S (qs ps + 2) G w _ (.returned v) w3) := ⟨v, H3, rfl, (HXW.out.trans HX2.out).trans (hx3.mono (by omega)), hv⟩
    obtain ⟨vb, rfl, -⟩ := hv
    clear C hx3
    go_wp2_with fail
    exact ⟨_, results_tmp (t := 6) rfl _ _ _, HO.out⟩
  · have hkv := HI1.out.2.2.2.2.2.2
    rcases hkv with rfl | ⟨kb, rfl, hgk⟩
    case' inl =>
      have c6 := cell_of_row W2 b 6 _ _ _ HKB2.out
      have hq := known_nil_yes W2
      go_wp2_with fail
      have hmk : ∀ W : World, (Instr.makeSlice 227 (.int .i64 (S.n : Nat)) (.int .i64 (S.n : Nat))).run Tryz.prog W = .ok (.slice (some ⟨W.heap.size, 0, none⟩) S.n S.n) (W.alloc (.cells (madeCells #[.slice none 0 0] S.n) 110)) := fun W => run_make_row' (P := Tryz.prog) 227 110 (.slice none 0 0) 24 Tryz.underlying227 info110' rfl .i64 .i64 S.n (by omega) (by omega) W
      have hbl := lt_of_block HKB2.out
      have hb1w : b < w.heap.size := hlt
      have hne1 : b ≠ w.heap.size := by omega
      have hne2 : b ≠ w.heap.size + 1 := by omega
      have hne3 : b ≠ wb := by
        rintro rfl
        obtain ⟨_, _, _, _, _, _, _, hwb, _⟩ := HI1.out.2.1.ext HI1.out.1 HX2.out
        rw [HKB2.out] at hwb
        injection hwb with hwb
        injection hwb with _ hwb
        cases hwb
      have hMk : MkS w.heap.size (w.heap.size + 1) wb b S.n W2.drew := (⟨e3, e4, e2⟩ : MkS w.heap.size (w.heap.size + 1) wb b S.n W2)
      have f6 := frozen_of_row W2 b 6 _ _ HKB2.out
      refine wp_region_noPanic ?_
      refine wp_region_held_drew (S := (fun W => W.cell? ⟨w.heap.size, 0, none⟩ = some (.pointer (some ⟨wb, 0, none⟩)) ∧ W.cell? ⟨w.heap.size + 1, 0, none⟩ = some (.pointer (some ⟨b, 0, none⟩)) ∧ W.cell? ⟨wb, 2, none⟩ = some (.int .i64 (S.n : Nat)))) (by kernel_rfl) (hMk) (fun hHeld => ?_)
      refine wpAnyH_take (i := 0) (oi := { dst := some 34, op := Op.load 157 (Operand.tmp 4), type := 157, pos := "walk.go:122", after := #[], guard := none }) (v := ?va1) rfl (by kernel_rfl) (by kernel_rfl) (by kernel_rfl) (fun _ _ _ h => h) (Or.inl ⟨by rfl, ?ya1⟩) (by assumption) ?ra1
      case ya1 => (intro w hSw; (try dsimp only at hSw); go_simp) <;> try with_reducible rfl
      try simp only [Act.put, List.setIfInBounds_toArray, List.set_cons_zero, List.set_cons_succ]
      refine wpAnyH_take (i := 1) (oi := { dst := some 35, op := Op.load 225 (Operand.tmp 3), type := 225, pos := "walk.go:122", after := #[], guard := none }) (v := ?va2) rfl (by kernel_rfl) (by kernel_rfl) (by kernel_rfl) (fun _ _ _ h => h) (Or.inl ⟨by rfl, ?ya2⟩) (by assumption) ?ra2
      case ya2 => (intro w hSw; (try dsimp only at hSw); go_simp) <;> try with_reducible rfl
      try simp only [Act.put, List.setIfInBounds_toArray, List.set_cons_zero, List.set_cons_succ]
      refine wpAnyH_take (i := 2) (oi := { dst := some 36, op := Op.nilCheck (Operand.tmp 35), type := 0, pos := "walk.go:122", after := #[{ on := 1, ground := Ground.data }], guard := none }) (v := ?va3) rfl (by kernel_rfl) (by kernel_rfl) (by kernel_rfl) (fun _ _ _ h => h) (Or.inl ⟨by rfl, ?ya3⟩) (by assumption) ?ra3
      case ya3 => (intro w hSw; (try dsimp only at hSw); go_simp) <;> try with_reducible rfl
      try simp only [Act.put, List.setIfInBounds_toArray, List.set_cons_zero, List.set_cons_succ]
      refine wpAnyH_take (i := 3) (oi := { dst := some 37, op := Op.fieldAddr 154 (Operand.tmp 36) 2, type := 0, pos := "walk.go:122", after := #[{ on := 2, ground := Ground.data }], guard := none }) (v := ?va4) rfl (by kernel_rfl) (by kernel_rfl) (by kernel_rfl) (fun _ _ _ h => h) (Or.inl ⟨by rfl, ?ya4⟩) (by assumption) ?ra4
      case ya4 => (intro w hSw; (try dsimp only at hSw); go_simp) <;> try with_reducible rfl
      try simp only [Act.put, List.setIfInBounds_toArray, List.set_cons_zero, List.set_cons_succ]
      refine wpAnyH_take (i := 4) (oi := { dst := some 38, op := Op.load 3 (Operand.tmp 37), type := 3, pos := "walk.go:122", after := #[{ on := 3, ground := Ground.data }], guard := none }) (v := ?va5) rfl (by kernel_rfl) (by kernel_rfl) (by kernel_rfl) (fun _ _ _ h => h) (Or.inl ⟨by rfl, ?ya5⟩) (by assumption) ?ra5
      case ya5 => (intro w hSw; (try dsimp only at hSw); go_simp) <;> try with_reducible rfl
      try simp only [Act.put, List.setIfInBounds_toArray, List.set_cons_zero, List.set_cons_succ]
      refine wpAnyH_ready (rs := [5]) (by kernel_rfl) (by simp) ?_
      refine AllReadyH.cons (o := { dst := some 39, op := Op.makeSlice 227 (Operand.tmp 38) (Operand.tmp 38), type := 227, pos := "walk.go:122", after := #[{ on := 4, ground := Ground.data }, { on := 4, ground := Ground.data }], guard := none }) rfl (fun K hK => ?_) AllReadyH.nil
      go_simp
      refine hK.out _ _ ?_ (fun hHeld => ?_)
      · exact MkS.alloc hMk _
      clear hK K
      try simp only [Act.put, List.setIfInBounds_toArray, List.set_cons_zero, List.set_cons_succ]
      refine wpAnyH_take (i := 6) (oi := { dst := some 40, op := Op.nilCheck (Operand.tmp 34), type := 0, pos := "walk.go:122", after := #[{ on := 0, ground := Ground.data }, { on := 0, ground := Ground.phase }, { on := 1, ground := Ground.phase }, { on := 2, ground := Ground.phase }, { on := 3, ground := Ground.phase }, { on := 4, ground := Ground.phase }, { on := 5, ground := Ground.phase }], guard := none }) (v := ?va6) rfl (by kernel_rfl) (by kernel_rfl) (by kernel_rfl) (fun _ _ _ h => h) (Or.inl ⟨by rfl, ?ya6⟩) (by assumption) ?ra6
      case ya6 => (intro w hSw; (try dsimp only at hSw); go_simp) <;> try with_reducible rfl
      try simp only [Act.put, List.setIfInBounds_toArray, List.set_cons_zero, List.set_cons_succ]
      refine wpAnyH_take (i := 7) (oi := { dst := some 41, op := Op.fieldAddr 229 (Operand.tmp 40) 6, type := 0, pos := "walk.go:122", after := #[{ on := 6, ground := Ground.data }, { on := 0, ground := Ground.phase }, { on := 1, ground := Ground.phase }, { on := 2, ground := Ground.phase }, { on := 3, ground := Ground.phase }, { on := 4, ground := Ground.phase }, { on := 5, ground := Ground.phase }], guard := none }) (v := ?va7) rfl (by kernel_rfl) (by kernel_rfl) (by kernel_rfl) (fun _ _ _ h => h) (Or.inl ⟨by rfl, ?ya7⟩) (by assumption) ?ra7
      case ya7 => (intro w hSw; (try dsimp only at hSw); go_simp) <;> try with_reducible rfl
      try simp only [Act.put, List.setIfInBounds_toArray, List.set_cons_zero, List.set_cons_succ]
      refine wpAnyH_ready (rs := [8]) (by kernel_rfl) (by simp) ?_
      refine AllReadyH.cons (o := { dst := none, op := Op.store 227 (Operand.tmp 41) (Operand.tmp 39), type := 0, pos := "walk.go:122", after := #[{ on := 7, ground := Ground.data }, { on := 5, ground := Ground.data }, { on := 0, ground := Ground.phase }, { on := 1, ground := Ground.phase }, { on := 2, ground := Ground.phase }, { on := 3, ground := Ground.phase }, { on := 4, ground := Ground.phase }, { on := 5, ground := Ground.phase }], guard := none }) rfl (fun K hK => ?_) AllReadyH.nil
      go_simp
      refine hK.out _ _ ?_ (fun hHeld => ?_)
      · exact MkS.alloc (MkS.store (W := W2) hMk hne1 hne2 hne3 _) _
      clear hK K
      try simp only [Act.put, List.setIfInBounds_toArray, List.set_cons_zero, List.set_cons_succ]
      refine wpAnyH_done (by kernel_rfl) ?_ _
      refine NoPanic.normal ?_
      have hcomm := (World.setCell_alloc_past (w := W2) (.cells (madeCells #[.slice none 0 0] S.n) 110) b 6 (.slice (some ⟨W2.heap.size, 0, none⟩) S.n S.n) hbl).symm
      rw [hcomm]
      obtain ⟨Wc, H, kb, HX, HKn, HC6, hkb, hWc⟩ : ∃ (Wc : World) (H : Gh) (kb : Nat), Hid (Ext S (qs ps + 2) W1 G Wc H) ∧ Hid (H kb = some (.known (.many ps l hi))) ∧ Wc.cell? ⟨b, 6, none⟩ = some (.slice (some ⟨kb, 0, none⟩) S.n S.n) ∧ kb = W2.heap.size ∧
          Wc = ((W2.alloc (.cells (madeCells #[.slice none 0 0] S.n) 110)).setCell ⟨b, 6, none⟩ (.slice (some ⟨W2.heap.size, 0, none⟩) S.n S.n)).drew := by
        have hsz := HX2.out.low.size
        have hsz1 := HI1.out.2.2.2.2.2.1
        have hxA : Ext S (qs ps + 2) W1 G (W2.alloc (.cells (madeCells #[.slice none 0 0] S.n) 110)) G := HX2.out.trans (Ext.below HX2.out.inv (by omega) ((Below.refl _ W2).alloc (Nat.le_refl _) _))
        have hn : G W2.heap.size = none := HX2.out.inv.zero (Nat.le_refl _)
        have hIs : Is S G (W2.alloc (.cells (madeCells #[.slice none 0 0] S.n) 110)) W2.heap.size (.known (.many ps l hi)) := by
          refine ⟨List.replicate S.n (.slice none 0 0), by simp, ?_, fun i v hv => .inl ?_⟩
          · rw [← madeCells_one]; exact heap_alloc_new _ _
          · rw [List.getElem?_replicate] at hv
            split at hv
            · cases hv; rfl
            · cases hv
        have hxG := hxA.grow hn (by omega) (by omega) hIs
        have hbH : (G.put W2.heap.size (.known (.many ps l hi))) b = some (.path (.many ps l hi)) := Gh.put_of hn HI1.out.2.2.2.2.1
        have hxS := hxG.set (j := 6) (u := .slice (some ⟨W2.heap.size, 0, none⟩) S.n S.n) hbH (by show qs ps + 1 < qs ps + 2; omega) (many_known hxG.inv hbH _ (.inr ⟨_, rfl, Gh.put_same _ _ _⟩))
        refine ⟨_, G.put W2.heap.size (.known (.many ps l hi)), W2.heap.size, ?_, Gh.put_same _ _ _, ?_, rfl, rfl⟩
        · exact hxS.trans (Ext.below hxS.inv (by have := hxS.low.size; omega) ((Below.refl _ _).drew))
        · have h1 : (W2.alloc (.cells (madeCells #[.slice none 0 0] S.n) 110)).heap[b]? = _ := (heap_alloc_old W2 _ hbl).trans HKB2.out
          exact cell_of_row _ b 6 _ _ _ (heap_setCell_same _ b 6 _ 229 (.slice (some ⟨W2.heap.size, 0, none⟩) S.n S.n) h1)
      rw [← hWc, ← hkb]
      clear hWc hkb hcomm hHeld hMk f6 hmk c6 hq e2 e3 e4 hbl
      obtain ⟨e3, e4, e2⟩ := HB.out _ Wc H HX.out
      go_wp2_with fail
    case' inr =>
      have HC6 : W2.cell? ⟨b, 6, none⟩ = some (.slice (some ⟨kb, 0, none⟩) S.n S.n) := cell_of_row W2 b 6 _ _ _ HKB2.out
      have hq := known_nil_no ⟨kb, 0, none⟩ S.n S.n W2
      go_wp2_with fail
      obtain ⟨H, hH⟩ : ∃ H, H = G := ⟨_, rfl⟩
      have HX : Hid (Ext S (qs ps + 2) W1 G W2 H) := by rw [hH]; exact HX2.out
      have HKn : Hid (H kb = some (.known (.many ps l hi))) := by rw [hH]; exact hgk
      obtain ⟨Wc, hWc⟩ : ∃ Wc, Wc = W2 := ⟨_, rfl⟩
      rw [← hWc] at HX HC6 e3 e4 e2 ⊢
      clear hq hgk hH hWc
    all_goals
      have hbH : H b = some (.path (.many ps l hi)) := HX.out.more _ _ HI1.out.2.2.2.2.1
      have HNK : Hid (w.heap.size ≠ kb ∧ w.heap.size + 1 ≠ kb ∧ wb ≠ kb) := by
        have key : ∀ k, k < W1.heap.size → G k = none → k ≠ kb := fun k hk hg => by
          have := HX.out.old k hk hg
          rintro rfl
          rw [HKn.out] at this
          cases this
        obtain ⟨g1, g2, g3, g4, g5⟩ := HGN.out
        exact ⟨key _ (by omega) g1, key _ (by omega) g2, key _ g4 g3⟩
      have hss := HI1.out.2.2.2.1.ext HI1.out.1 HX.out
      have W0 := nowhere_any S.n hn1S hn64 Wc
      refine W0.mono ?_
      rintro e w3 ⟨rfl, hw3⟩
      clear W0
      subst hw3
      go_wp2_with fail
      have hbWd : Below Wc.heap.size Wc ((Wc.alloc (.cells #[.int .u64 0] 159)).alloc (.cells #[.slice (some ⟨Wc.heap.size, 0, none⟩) 1 1] 110)) := ((Below.refl _ Wc).alloc (Nat.le_refl _) _).alloc (by simp) _
      obtain ⟨Wd, hWd⟩ : ∃ Wd, Wd = (Wc.alloc (.cells #[.int .u64 0] 159)).alloc (.cells #[.slice (some ⟨Wc.heap.size, 0, none⟩) 1 1] 110) := ⟨_, rfl⟩
      have ko : Wd.heap[Wc.heap.size + 1]? = some (.cells #[.slice (some ⟨Wc.heap.size, 0, none⟩) 1 1] 110 (0, 0)) := by
        rw [hWd]
        have := heap_alloc_new (Wc.alloc (.cells #[.int .u64 0] 159)) (.cells #[.slice (some ⟨Wc.heap.size, 0, none⟩) 1 1] 110)
        simpa using this
      have kz : Wd.cell? ⟨Wc.heap.size, 0, none⟩ = some (.int .u64 (0 : Nat)) := by
        rw [hWd]
        exact cell_alloc_old' (w := Wc.alloc (.cells #[.int .u64 0] 159)) (by simp)
      have hsd : Wd.heap.size = Wc.heap.size + 2 := by rw [hWd]; simp
      have E := each_any sb Wd
      rw [← hWd] at hbWd ⊢
      refine E.mono ?_
      rintro e w4 ⟨rfl, hw4⟩
      have hb4 : Below Wc.heap.size Wc w4 := by rw [hw4]; exact hbWd.alloc hbWd.size _
      have ke : w4.heap[Wc.heap.size + 2]? = some (.cells #[.slice (some ⟨sb, 0, none⟩) 1 1] 110 (0, 0)) := by
        rw [hw4, ← hsd]; exact heap_alloc_new _ _
      have ko4 : w4.heap[Wc.heap.size + 1]? = some (.cells #[.slice (some ⟨Wc.heap.size, 0, none⟩) 1 1] 110 (0, 0)) := by
        rw [hw4, heap_alloc_old _ _ (by omega)]; exact ko
      have kz4 : w4.cell? ⟨Wc.heap.size, 0, none⟩ = some (.int .u64 (0 : Nat)) := by
        rw [hw4]; exact cell_alloc_old' kz
      have hs4 : w4.heap.size = Wc.heap.size + 3 := by rw [hw4]; simp [hsd]
      have h8c : 8 ≤ Wc.heap.size := by have := HX.out.low.size; have := HI1.out.2.2.2.2.2.1; omega
      have hx4 : Ext S (qs ps + 2) Wc H w4 H := Ext.below HX.out.inv h8c hb4
      obtain ⟨hsb1, hsb2⟩ : sb < w4.heap.size ∧ w4.cell? ⟨sb, 0, none⟩ = some (.int .u64 s) := by
        obtain ⟨c, hc, h1, h2, -⟩ := hss
        cases hc
        exact ⟨by omega, (hb4.cell (p := ⟨sb, 0, none⟩) (by exact h1)).trans h2⟩
      have hq64 : s < 18446744073709551616 := by obtain ⟨_, _, _, _, h⟩ := hss; exact h
      have hT4 : TZ64 w4 := (tz_ext HI1.out.2.2.1 HX.out).below (hb4.mono h8c) (by omega)
      rw [hsd]
      obtain ⟨OB, hOB⟩ : ∃ x, x = Wc.heap.size + 1 := ⟨_, rfl⟩
      obtain ⟨EB, hEB⟩ : ∃ x, x = Wc.heap.size + 2 := ⟨_, rfl⟩
      rw [← hOB] at ko4 ⊢
      rw [← hEB] at ke ⊢
      have HHH : Hid (OB = Wc.heap.size + 1 ∧ EB = Wc.heap.size + 2 ∧ w4.heap.size = Wc.heap.size + 3 ∧ 8 ≤ Wc.heap.size) := ⟨hOB, hEB, hs4, h8c⟩
      clear hw4 hWd ko kz E hbWd hsd hOB hEB
      go_wp2_with fail
      refine (wpIn_wide (n := 9)).1 ?_
      refine RFC.rangeFunc (gf := 213) (lb := #[.pointer (some ⟨EB, 0, none⟩)]) rfl enter213 (by omega) (encs := fun (k : Nat) => #[.int .i64 (k : Nat)]) (fun _ => rfl)
        (each_walks (9 - 1) 8 EB sb s (by omega) hq64 w4 (by have := HHH.out; omega) (by omega) hT4 ke hsb1 hsb2) (fun h k => ⟨h.1.trans k.1, k.2.trans h.2⟩)
        (fun W l o hl => ⟨⟨rfl, rfl, rfl, by simp, fun k hk => World.putObj_heap_other (by have := HHH.out; omega)⟩, World.putObj_heap_other (by have := HHH.out; omega)⟩)
        (ManI S (qs ps + 2) Wc H b OB EB (.slice (some ⟨kb, 0, none⟩) S.n S.n) (MN.rep (S.ev ps).2.1 l hi)) (fun _ => False) (ManI_calm (by have := HHH.out; omega) (by have := HHH.out; omega) (by have := HHH.out; omega)) (fun _ _ _ _ h _ _ => h) ?start
        (ManA EB) (fun a' => ManA_calm a') ?assign ?body ?done ?stop
      case start =>
        refine ⟨H, _, hx4, ko4, HX.out.inv.zero (by have := HHH.out; omega), HX.out.inv.zero (by have := HHH.out; omega), ⟨Wc.heap.size, rfl, by have := HHH.out; omega, by rw [acc_nil]; exact kz4, by rw [acc_nil]; omega⟩, by have := HHH.out; omega, ?_⟩
        exact (World.cell?_of_block (w := Wc) (a := ⟨b, 6, none⟩) (hb4.block b (cell_lt HC6))).trans HC6
      case stop =>
        intro W h _
        exact h.elim
      case assign =>
        intro l' pre x W K hin hy hK
        have hlt := hin
        obtain ⟨_, _, _, _, _, _, _, hEW, _⟩ := hlt
        have HI : Hid (ManI S (qs ps + 2) Wc H b OB EB (.slice (some ⟨kb, 0, none⟩) S.n S.n) (MN.rep (S.ev ps).2.1 l hi) pre (W.alloc (.cells #[.int .i64 (x : Nat)] 3))) := (ManI_calm (B := w4.heap.size) (by have := HHH.out; omega) (by have := HHH.out; omega) (by have := HHH.out; omega)).alloc _ hin
        gi_wp2
        refine hK _ _ ((KeepsOthers.alloc _ _).from _) ⟨(Below.refl _ W).alloc (by have := HHH.out; omega) _, Below.heap_alloc W _ _ hEW⟩ HI.out ⟨W.heap.size, hEW, heap_alloc_new W _, ?_⟩
        rfl
      case done =>
        intro xs W hS hin hK
        obtain ⟨K, v, h1, h2, h3, h4, h5, h6, h7⟩ := hin
        rw [hS, acc_spots HAdd.out s hq64] at h5
        have c7 : W.cell? ⟨OB, 0, none⟩ = some v := cell_of_row _ OB 0 _ _ _ h2
        have hg : W.grownBy (W.putObj w4.heap.size (.deferred none)) (some w4.heap.size) := grownBy_putObj' _ _ _
        have R : Hid (Out S (qs ps + 2) G w (MN.rep (S.ev ps).2.1 l hi s) (.returned v) (W.putObj w4.heap.size (.deferred none))) := by
          refine ⟨v, K, rfl, (HXW.out.trans HX.out).trans (h1.row (by have := HHH.out; omega) hg fun k e => ?_), h5.row hg fun k e => ?_⟩
          · cases e; exact ⟨by have := HHH.out; omega, h1.inv.free hK rfl, not_word_of_free hK rfl⟩
          · cases e; exact (not_word_of_free hK rfl).1
        have hOB4 : OB ≠ w4.heap.size := by have := HHH.out; omega
        obtain ⟨vb, rfl, -⟩ := h5
        clear h1 h2 h3 h4 h6 h7 hg ke ko4 kz4 hx4 hT4 hsb2 hb4 e2 e3 e4
        go_wp2_with fail
        refine ⟨by simp, .inl ⟨_, _, rfl, run_takeDeferred hK, ?_⟩⟩
        exact ⟨_, results_tmp (t := 6) rfl _ _ _, R.out⟩
      case body =>
        intro l' pre x a' W hin hax hy
        obtain ⟨K0, v, hx, ho, hko, hke, hv, hsz, hc6⟩ := hin
        obtain ⟨PB, hpb, hp, rfl⟩ := hax
        obtain ⟨post, hpost⟩ := hy
        have hxm : x ∈ spots 64 s := by rw [hpost]; simp
        have hxn : x < S.n := bit_lt HSL.out (spots_bit s hq64 x hxm)
        have hKb : K0 b = some (.path (.many ps l hi)) := hx.more _ _ hbH
        have hKk : K0 kb = some (.known (.many ps l hi)) := hx.more _ _ HKn.out
        have hKP : K0 PB = none := hx.inv.tag hp (by decide) (by decide)
        obtain ⟨vs, hvl, hvh, hvk⟩ := hx.inv.is hKk
        obtain ⟨vx, hvx⟩ : ∃ vx, vs[x]? = some vx := ⟨vs[x], List.getElem?_eq_getElem (by omega)⟩
        have hcx : W.cell? ⟨kb, x, none⟩ = some vx := by simp [World.cell?, hvh, hvx]
        have hcx0 : W.cell? ⟨kb, 0 + x, none⟩ = some vx := by rw [Nat.zero_add]; exact hcx
        have hcp : W.cell? ⟨PB, 0, none⟩ = some (.int .i64 (x : Nat)) := cell_of_row W PB 0 _ _ _ hp
        obtain ⟨b3c, b4c, bwc⟩ := HB.out _ W K0 (HX.out.trans hx)
        have hS9 : W.drew.cell? ⟨w.heap.size + 1, 0, none⟩ = some (.pointer (some ⟨b, 0, none⟩)) ∧ W.drew.cell? ⟨b, 6, none⟩ = some (.slice (some ⟨kb, 0, none⟩) S.n S.n) ∧ W.drew.cell? ⟨PB, 0, none⟩ = some (.int .i64 (x : Nat)) ∧ W.drew.cell? ⟨kb, 0 + x, none⟩ = some vx ∧ W.drew.cell? ⟨kb, x, none⟩ = some vx := ⟨b4c, hc6, hcp, hcx0, hcx⟩
        have hxni : (x : Int) < (S.n : Int) := by omega
        have hnk : ∀ k, K0 k = none → k ≠ kb := by rintro k hk rfl; rw [hKk] at hk; cases hk
        have hnkb : b ≠ kb := by rintro rfl; rw [hKk] at hKb; cases hKb
        have hnkp : PB ≠ kb := hnk _ hKP
        simp only [List.setIfInBounds_toArray, List.set_cons_zero, List.set_cons_succ]
        have HO : Hid (W.heap[OB]? = some (.cells #[v] 110 (0, 0))) := ho
        have HV0 : Hid (Pl W.heap.size W v (acc (MN.rep (S.ev ps).2.1 l hi) pre)) := hv
        obtain ⟨vb, rfl, -⟩ := hv
        clear ho
        rcases hvk x vx hvx with hnil | hpl
        case' inl =>
          subst hnil
          have hq : ∀ W', (binOp BinOp.eql 110 (.slice none 0 0) (.slice none 0 0)).run Tryz.prog W' = .ok (.bool true) W' := place_nil_yes
          gi_wp2_with fail
          refine RF.region_held_round (S := (fun W' => W'.cell? ⟨w.heap.size + 1, 0, none⟩ = some (.pointer (some ⟨b, 0, none⟩)) ∧ W'.cell? ⟨b, 6, none⟩ = some (.slice (some ⟨kb, 0, none⟩) S.n S.n) ∧ W'.cell? ⟨PB, 0, none⟩ = some (.int .i64 (x : Nat)) ∧ W'.cell? ⟨kb, 0 + x, none⟩ = some (.slice none 0 0) ∧ W'.cell? ⟨kb, x, none⟩ = some (.slice none 0 0))) (by kernel_rfl) (by kernel_rfl) (fun h => h.elim fun _ h => h.elim fun _ h => h) (hS9) (fun hHeld => ?_)
          refine wpAnyH_take (i := 0) (oi := { dst := some 50, op := Op.load 157 (Operand.tmp 4), type := 157, pos := "walk.go:126", after := #[], guard := none }) (v := ?_) rfl (by kernel_rfl) (by kernel_rfl) (by kernel_rfl) (fun _ _ _ h => h) (Or.inl ⟨by rfl, ?_⟩) (by assumption) ?_
          rotate_left
          · (intro w hSw; (try dsimp only at hSw); go_simp) <;> try with_reducible rfl
          try simp only [Act.put, List.setIfInBounds_toArray, List.set_cons_zero, List.set_cons_succ]
          refine wpAnyH_take (i := 1) (oi := { dst := some 51, op := Op.nilCheck (Operand.tmp 50), type := 0, pos := "walk.go:126", after := #[{ on := 0, ground := Ground.data }], guard := none }) (v := ?_) rfl (by kernel_rfl) (by kernel_rfl) (by kernel_rfl) (fun _ _ _ h => h) (Or.inl ⟨by rfl, ?_⟩) (by assumption) ?_
          rotate_left
          · (intro w hSw; (try dsimp only at hSw); go_simp) <;> try with_reducible rfl
          try simp only [Act.put, List.setIfInBounds_toArray, List.set_cons_zero, List.set_cons_succ]
          refine wpAnyH_take (i := 2) (oi := { dst := some 52, op := Op.fieldAddr 229 (Operand.tmp 51) 6, type := 0, pos := "walk.go:126", after := #[{ on := 1, ground := Ground.data }], guard := none }) (v := ?_) rfl (by kernel_rfl) (by kernel_rfl) (by kernel_rfl) (fun _ _ _ h => h) (Or.inl ⟨by rfl, ?_⟩) (by assumption) ?_
          rotate_left
          · (intro w hSw; (try dsimp only at hSw); go_simp) <;> try with_reducible rfl
          try simp only [Act.put, List.setIfInBounds_toArray, List.set_cons_zero, List.set_cons_succ]
          refine wpAnyH_take (i := 3) (oi := { dst := some 53, op := Op.load 227 (Operand.tmp 52), type := 227, pos := "walk.go:126", after := #[{ on := 2, ground := Ground.data }], guard := none }) (v := ?_) rfl (by kernel_rfl) (by kernel_rfl) (by kernel_rfl) (fun _ _ _ h => h) (Or.inl ⟨by rfl, ?_⟩) (by assumption) ?_
          rotate_left
          · (intro w hSw; (try dsimp only at hSw); go_simp) <;> try with_reducible rfl
          try simp only [Act.put, List.setIfInBounds_toArray, List.set_cons_zero, List.set_cons_succ]
          refine wpAnyH_take (i := 4) (oi := { dst := some 54, op := Op.load 3 (Operand.tmp 8), type := 3, pos := "walk.go:126", after := #[], guard := none }) (v := ?_) rfl (by kernel_rfl) (by kernel_rfl) (by kernel_rfl) (fun _ _ _ h => h) (Or.inl ⟨by rfl, ?_⟩) (by assumption) ?_
          rotate_left
          · (intro w hSw; (try dsimp only at hSw); go_simp) <;> try with_reducible rfl
          try simp only [Act.put, List.setIfInBounds_toArray, List.set_cons_zero, List.set_cons_succ]
          refine wpAnyH_take (i := 5) (oi := { dst := some 55, op := Op.indexAddr 227 (Operand.tmp 53) (Operand.tmp 54), type := 0, pos := "walk.go:126", after := #[{ on := 3, ground := Ground.data }, { on := 4, ground := Ground.data }], guard := none }) (v := ?_) rfl (by kernel_rfl) (by kernel_rfl) (by kernel_rfl) (fun _ _ _ h => h) (Or.inl ⟨by rfl, ?_⟩) (by assumption) ?_
          rotate_left
          · (intro w hSw; (try dsimp only at hSw); go_simp) <;> try with_reducible rfl
          try simp only [Act.put, List.setIfInBounds_toArray, List.set_cons_zero, List.set_cons_succ]
          refine wpAnyH_take (i := 6) (oi := { dst := some 56, op := Op.load 110 (Operand.tmp 55), type := 110, pos := "walk.go:126", after := #[{ on := 5, ground := Ground.data }], guard := none }) (v := ?_) rfl (by kernel_rfl) (by kernel_rfl) (by kernel_rfl) (fun _ _ _ h => h) (Or.inl ⟨by rfl, ?_⟩) (by assumption) ?_
          rotate_left
          · (intro w hSw; (try dsimp only at hSw); go_simp) <;> try with_reducible rfl
          try simp only [Act.put, List.setIfInBounds_toArray, List.set_cons_zero, List.set_cons_succ]
          refine wpAnyH_take (i := 7) (oi := { dst := some 57, op := Op.binOp BinOp.eql 110 (Operand.tmp 56) (Operand.const (Value.slice none 0 0)) 110, type := 4, pos := "walk.go:126", after := #[{ on := 6, ground := Ground.data }], guard := none }) (v := ?_) rfl (by kernel_rfl) (by kernel_rfl) (by kernel_rfl) (fun _ _ _ h => h) (Or.inl ⟨by rfl, ?_⟩) (by assumption) ?_
          rotate_left
          · (intro w hSw; (try dsimp only at hSw); go_simp) <;> try with_reducible rfl
          try simp only [Act.put, List.setIfInBounds_toArray, List.set_cons_zero, List.set_cons_succ]
          refine wpAnyH_done (by kernel_rfl) ?_ _
          clear hHeld hS9 hcx hcx0
          have hS10 : RdS w.heap.size (w.heap.size + 1) wb b kb PB S.n x W.drew.drew := (⟨b3c, b4c, bwc, hc6, hcp⟩ : RdS w.heap.size (w.heap.size + 1) wb b kb PB S.n x W)
          have HC1 : Hid (∀ W', W'.cell? ⟨PB, 0, none⟩ = some (.int .i64 (x : Nat)) → Calls Tryz.prog 77 #[.int .i64 S.n, .func (.func 192) #[] #[.pointer (some ⟨PB, 0, none⟩)]] W' (PlSay W' (2 ^ x))) := by
            intro W' hc
            have := which_any S.n hn1S hn64 192 #[.pointer (some ⟨PB, 0, none⟩)] (fun i => decide (i = x)) W' enter192 (fun i _ W'' hb => ask_place i x PB W'' (cell_below hc hb))
            rwa [mask_one hxn] at this
          have hnk3 : w.heap.size ≠ kb := HNK.out.1
          have hnk4 : w.heap.size + 1 ≠ kb := HNK.out.2.1
          have hnkw : wb ≠ kb := HNK.out.2.2
          gi_wp2_with fail
          refine RF.region_held_round (S := (fun W' => W'.cell? ⟨w.heap.size, 0, none⟩ = some (.pointer (some ⟨wb, 0, none⟩)) ∧ W'.cell? ⟨w.heap.size + 1, 0, none⟩ = some (.pointer (some ⟨b, 0, none⟩)) ∧ W'.cell? ⟨wb, 2, none⟩ = some (.int .i64 (S.n : Nat)) ∧ W'.cell? ⟨b, 6, none⟩ = some (.slice (some ⟨kb, 0, none⟩) S.n S.n) ∧ W'.cell? ⟨PB, 0, none⟩ = some (.int .i64 (x : Nat)))) (by kernel_rfl) (by kernel_rfl) (fun h => h.elim fun _ h => h.elim fun _ h => h) (hS10) (fun hHeld => ?_)
          refine wpAnyH_take (i := 0) (oi := { dst := some 58, op := Op.load 157 (Operand.tmp 4), type := 157, pos := "walk.go:127", after := #[], guard := none }) (v := ?_) rfl (by kernel_rfl) (by kernel_rfl) (by kernel_rfl) (fun _ _ _ h => h) (Or.inl ⟨by rfl, ?_⟩) (by assumption) ?_
          rotate_left
          · (intro w hSw; (try dsimp only at hSw); go_simp) <;> try with_reducible rfl
          try simp only [Act.put, List.setIfInBounds_toArray, List.set_cons_zero, List.set_cons_succ]
          refine wpAnyH_take (i := 1) (oi := { dst := some 59, op := Op.nilCheck (Operand.tmp 58), type := 0, pos := "walk.go:127", after := #[{ on := 0, ground := Ground.data }], guard := none }) (v := ?_) rfl (by kernel_rfl) (by kernel_rfl) (by kernel_rfl) (fun _ _ _ h => h) (Or.inl ⟨by rfl, ?_⟩) (by assumption) ?_
          rotate_left
          · (intro w hSw; (try dsimp only at hSw); go_simp) <;> try with_reducible rfl
          try simp only [Act.put, List.setIfInBounds_toArray, List.set_cons_zero, List.set_cons_succ]
          refine wpAnyH_take (i := 2) (oi := { dst := some 60, op := Op.fieldAddr 229 (Operand.tmp 59) 6, type := 0, pos := "walk.go:127", after := #[{ on := 1, ground := Ground.data }], guard := none }) (v := ?_) rfl (by kernel_rfl) (by kernel_rfl) (by kernel_rfl) (fun _ _ _ h => h) (Or.inl ⟨by rfl, ?_⟩) (by assumption) ?_
          rotate_left
          · (intro w hSw; (try dsimp only at hSw); go_simp) <;> try with_reducible rfl
          try simp only [Act.put, List.setIfInBounds_toArray, List.set_cons_zero, List.set_cons_succ]
          refine wpAnyH_take (i := 3) (oi := { dst := some 61, op := Op.load 227 (Operand.tmp 60), type := 227, pos := "walk.go:127", after := #[{ on := 2, ground := Ground.data }], guard := none }) (v := ?_) rfl (by kernel_rfl) (by kernel_rfl) (by kernel_rfl) (fun _ _ _ h => h) (Or.inl ⟨by rfl, ?_⟩) (by assumption) ?_
          rotate_left
          · (intro w hSw; (try dsimp only at hSw); go_simp) <;> try with_reducible rfl
          try simp only [Act.put, List.setIfInBounds_toArray, List.set_cons_zero, List.set_cons_succ]
          refine wpAnyH_take (i := 4) (oi := { dst := some 62, op := Op.load 3 (Operand.tmp 8), type := 3, pos := "walk.go:127", after := #[], guard := none }) (v := ?_) rfl (by kernel_rfl) (by kernel_rfl) (by kernel_rfl) (fun _ _ _ h => h) (Or.inl ⟨by rfl, ?_⟩) (by assumption) ?_
          rotate_left
          · (intro w hSw; (try dsimp only at hSw); go_simp) <;> try with_reducible rfl
          try simp only [Act.put, List.setIfInBounds_toArray, List.set_cons_zero, List.set_cons_succ]
          refine wpAnyH_take (i := 5) (oi := { dst := some 63, op := Op.load 225 (Operand.tmp 3), type := 225, pos := "walk.go:127", after := #[], guard := none }) (v := ?_) rfl (by kernel_rfl) (by kernel_rfl) (by kernel_rfl) (fun _ _ _ h => h) (Or.inl ⟨by rfl, ?_⟩) (by assumption) ?_
          rotate_left
          · (intro w hSw; (try dsimp only at hSw); go_simp) <;> try with_reducible rfl
          try simp only [Act.put, List.setIfInBounds_toArray, List.set_cons_zero, List.set_cons_succ]
          refine wpAnyH_take (i := 6) (oi := { dst := some 64, op := Op.load 157 (Operand.tmp 4), type := 157, pos := "walk.go:127", after := #[], guard := none }) (v := ?_) rfl (by kernel_rfl) (by kernel_rfl) (by kernel_rfl) (fun _ _ _ h => h) (Or.inl ⟨by rfl, ?_⟩) (by assumption) ?_
          rotate_left
          · (intro w hSw; (try dsimp only at hSw); go_simp) <;> try with_reducible rfl
          try simp only [Act.put, List.setIfInBounds_toArray, List.set_cons_zero, List.set_cons_succ]
          refine wpAnyH_take (i := 7) (oi := { dst := some 65, op := Op.load 225 (Operand.tmp 3), type := 225, pos := "walk.go:127", after := #[], guard := none }) (v := ?_) rfl (by kernel_rfl) (by kernel_rfl) (by kernel_rfl) (fun _ _ _ h => h) (Or.inl ⟨by rfl, ?_⟩) (by assumption) ?_
          rotate_left
          · (intro w hSw; (try dsimp only at hSw); go_simp) <;> try with_reducible rfl
          try simp only [Act.put, List.setIfInBounds_toArray, List.set_cons_zero, List.set_cons_succ]
          refine wpAnyH_take (i := 8) (oi := { dst := some 66, op := Op.nilCheck (Operand.tmp 65), type := 0, pos := "walk.go:127", after := #[{ on := 7, ground := Ground.data }], guard := none }) (v := ?_) rfl (by kernel_rfl) (by kernel_rfl) (by kernel_rfl) (fun _ _ _ h => h) (Or.inl ⟨by rfl, ?_⟩) (by assumption) ?_
          rotate_left
          · (intro w hSw; (try dsimp only at hSw); go_simp) <;> try with_reducible rfl
          try simp only [Act.put, List.setIfInBounds_toArray, List.set_cons_zero, List.set_cons_succ]
          refine wpAnyH_take (i := 9) (oi := { dst := some 67, op := Op.fieldAddr 154 (Operand.tmp 66) 2, type := 0, pos := "walk.go:127", after := #[{ on := 8, ground := Ground.data }], guard := none }) (v := ?_) rfl (by kernel_rfl) (by kernel_rfl) (by kernel_rfl) (fun _ _ _ h => h) (Or.inl ⟨by rfl, ?_⟩) (by assumption) ?_
          rotate_left
          · (intro w hSw; (try dsimp only at hSw); go_simp) <;> try with_reducible rfl
          try simp only [Act.put, List.setIfInBounds_toArray, List.set_cons_zero, List.set_cons_succ]
          refine wpAnyH_take (i := 10) (oi := { dst := some 68, op := Op.load 3 (Operand.tmp 67), type := 3, pos := "walk.go:127", after := #[{ on := 9, ground := Ground.data }], guard := none }) (v := ?_) rfl (by kernel_rfl) (by kernel_rfl) (by kernel_rfl) (fun _ _ _ h => h) (Or.inl ⟨by rfl, ?_⟩) (by assumption) ?_
          rotate_left
          · (intro w hSw; (try dsimp only at hSw); go_simp) <;> try with_reducible rfl
          try simp only [Act.put, List.setIfInBounds_toArray, List.set_cons_zero, List.set_cons_succ]
          refine wpAnyH_take (i := 11) (oi := { dst := some 69, op := Op.makeFunc (Fn.func 192) #[] #[Operand.tmp 8], type := 112, pos := "walk.go:127", after := #[], guard := none }) (v := ?_) rfl (by kernel_rfl) (by kernel_rfl) (by kernel_rfl) (fun _ _ _ h => h) (Or.inl ⟨by rfl, ?_⟩) (by assumption) ?_
          rotate_left
          · (intro w hSw; (try dsimp only at hSw); go_simp) <;> try with_reducible rfl
          try simp only [Act.put, List.setIfInBounds_toArray, List.set_cons_zero, List.set_cons_succ]
          refine wpAnyH_ready (rs := [12]) (by kernel_rfl) (by simp) ?_
          refine AllReadyH.cons (o := { dst := some 70, op := Op.call { callee := Callee.value (Operand.func 77), args := #[Operand.tmp 68, Operand.tmp 69], argTypes := #[3, 112] }, type := 110, pos := "walk.go:127", after := #[{ on := 10, ground := Ground.data }, { on := 11, ground := Ground.data }], guard := none }) rfl (fun K hK => ?_) AllReadyH.nil
          go_simp
          refine (HC1.out _ hHeld.2.2.2.2).mono ?_
          rintro e w11 ⟨⟨v11, rfl, hv11⟩, hb11⟩
          have HV11 : Hid (Pl w11.heap.size w11 v11 (2 ^ x)) := hv11
          obtain ⟨vb11, rfl, -⟩ := hv11
          go_wp2_with fail
          refine hK.out _ _ ?_ (fun hHeld => ?_)
          · exact RdS.below (b3 := w.heap.size) (b4 := w.heap.size + 1) (n := S.n) (x := x) hHeld hb11
          clear hK K
          try simp only [Act.put, List.setIfInBounds_toArray, List.set_cons_zero, List.set_cons_succ]
          have hx11 : Ext S (qs ps + 2) W K0 w11 K0 := Ext.below hx.inv (by have := hx.low.size; have := HHH.out; omega) (((Below.refl _ W).drew.drew).trans hb11)
          have C190 := HRep.out w11 K0 _ (2 ^ x) (fun k t hk => hx.more k t (HX.out.more k t hk)) hx11.inv (HI1.out.2.1.ext HI1.out.1 ((HX.out.trans hx).trans hx11)) (tz_ext HI1.out.2.2.1 ((HX.out.trans hx).trans hx11)) HV11.out (Nat.pow_lt_pow_right (by omega) hxn)
          refine wpAnyH_ready (rs := [13]) (by kernel_rfl) (by simp) ?_
          refine AllReadyH.cons (o := { dst := some 71, op := Op.call { callee := Callee.value (Operand.func 190), args := #[Operand.tmp 63, Operand.tmp 64, Operand.tmp 70], argTypes := #[225, 157, 110] }, type := 110, pos := "walk.go:127", after := #[{ on := 5, ground := Ground.data }, { on := 6, ground := Ground.data }, { on := 12, ground := Ground.data }, { on := 12, ground := Ground.chain }], guard := none }) rfl (fun K hK => ?_) AllReadyH.nil
          go_simp
          refine C190.mono ?_
          rintro e w12 ⟨v12, K2, rfl, hx12, hv12⟩
          have HV12 : Hid (Pl w12.heap.size w12 v12 (MN.rep (S.ev ps).2.1 l hi (2 ^ x))) := hv12
          obtain ⟨ub, rfl, -⟩ := hv12
          have hx1c := (HX.out.trans hx).trans (hx11.trans (hx12.mono (by omega : qs ps + 1 ≤ qs ps + 2)))
          obtain ⟨n3, n4, nw⟩ := HB.out _ w12 K2 hx1c
          have n6 : w12.cell? ⟨b, 6, none⟩ = some (.slice (some ⟨kb, 0, none⟩) S.n S.n) := (World.cell?_of_block (w := w11) (a := ⟨b, 6, none⟩) (hx12.high b _ hKb (Nat.le_refl _))).trans hHeld.2.2.2.1
          have np : w12.cell? ⟨PB, 0, none⟩ = some (.int .i64 (x : Nat)) := (World.cell?_of_block (w := w11) (a := ⟨PB, 0, none⟩) (hx12.kept PB (cell_lt hHeld.2.2.2.2) hKP)).trans hHeld.2.2.2.2
          go_wp2_with fail
          refine hK.out _ _ ?_ (fun hHeld => ?_)
          · exact ⟨n3, n4, nw, n6, np⟩
          clear hK K
          try simp only [Act.put, List.setIfInBounds_toArray, List.set_cons_zero, List.set_cons_succ]
          refine wpAnyH_take (i := 14) (oi := { dst := some 72, op := Op.indexAddr 227 (Operand.tmp 61) (Operand.tmp 62), type := 0, pos := "walk.go:127", after := #[{ on := 3, ground := Ground.data }, { on := 4, ground := Ground.data }, { on := 0, ground := Ground.phase }, { on := 1, ground := Ground.phase }, { on := 2, ground := Ground.phase }, { on := 3, ground := Ground.phase }, { on := 4, ground := Ground.phase }, { on := 5, ground := Ground.phase }, { on := 6, ground := Ground.phase }, { on := 7, ground := Ground.phase }, { on := 8, ground := Ground.phase }, { on := 9, ground := Ground.phase }, { on := 10, ground := Ground.phase }, { on := 11, ground := Ground.phase }, { on := 12, ground := Ground.phase }, { on := 13, ground := Ground.phase }], guard := none }) (v := ?_) rfl (by kernel_rfl) (by kernel_rfl) (by kernel_rfl) (fun _ _ _ h => h) (Or.inl ⟨by rfl, ?_⟩) (by assumption) ?_
          rotate_left
          · (intro w hSw; (try dsimp only at hSw); go_simp) <;> try with_reducible rfl
          try simp only [Act.put, List.setIfInBounds_toArray, List.set_cons_zero, List.set_cons_succ]
          have hK2k : K2 kb = some (.known (.many ps l hi)) := hx12.more _ _ hKk
          obtain ⟨vs2, hvl2, hvh2, -⟩ := hx12.inv.is hK2k
          have c12 : w12.cell? ⟨kb, x, none⟩ = some vs2[x] := by simp [World.cell?, hvh2]
          have f12 : w12.frozen? ⟨kb, x, none⟩ = false := frozen_of_row w12 kb x _ _ hvh2
          have c120 : w12.cell? ⟨kb, 0 + x, none⟩ = some vs2[x] := by rw [Nat.zero_add]; exact c12
          have f120 : w12.frozen? ⟨kb, 0 + x, none⟩ = false := frozen_of_row w12 kb (0 + x) _ _ hvh2
          refine wpAnyH_ready (rs := [15]) (by kernel_rfl) (by simp) ?_
          refine AllReadyH.cons (o := { dst := none, op := Op.store 110 (Operand.tmp 72) (Operand.tmp 71), type := 0, pos := "walk.go:127", after := #[{ on := 14, ground := Ground.data }, { on := 13, ground := Ground.data }, { on := 13, ground := Ground.chain }, { on := 0, ground := Ground.phase }, { on := 1, ground := Ground.phase }, { on := 2, ground := Ground.phase }, { on := 3, ground := Ground.phase }, { on := 4, ground := Ground.phase }, { on := 5, ground := Ground.phase }, { on := 6, ground := Ground.phase }, { on := 7, ground := Ground.phase }, { on := 8, ground := Ground.phase }, { on := 9, ground := Ground.phase }, { on := 10, ground := Ground.phase }, { on := 11, ground := Ground.phase }, { on := 12, ground := Ground.phase }, { on := 13, ground := Ground.phase }], guard := none }) rfl (fun K hK => ?_) AllReadyH.nil
          go_simp
          refine hK.out _ _ ?_ (fun hHeld => ?_)
          · exact RdS.set (b3 := w.heap.size) (b4 := w.heap.size + 1) (n := S.n) (x := x) hHeld hnk3 hnk4 hnkw hnkb hnkp _ _
          clear hK K
          try simp only [Act.put, List.setIfInBounds_toArray, List.set_cons_zero, List.set_cons_succ]
          refine wpAnyH_done (by kernel_rfl) ?_ _
          have hx3 : Ext S (qs ps + 2) W K0 w12 K2 := hx11.trans (hx12.mono (by omega))
          have hx5 := hx3.set (j := x) (u := .slice (some ⟨ub, 0, none⟩) 1 1) hK2k (by show qs ps + 1 < qs ps + 2; omega) (known_put hx12.inv hK2k x _ HV12.out)
          have hu5 : Pl _ (w12.setCell ⟨kb, x, none⟩ (.slice (some ⟨ub, 0, none⟩) 1 1)) (.slice (some ⟨ub, 0, none⟩) 1 1) ((S.ev (.many ps l hi)).1 (2 ^ x)) := pl_set hx12.inv hK2k x _ HV12.out
          have qk : (w12.setCell ⟨kb, x, none⟩ (.slice (some ⟨ub, 0, none⟩) 1 1)).cell? ⟨kb, x, none⟩ = some (.slice (some ⟨ub, 0, none⟩) 1 1) := by
            have := heap_setCell_same w12 kb x _ 110 (.slice (some ⟨ub, 0, none⟩) 1 1) hvh2
            have hlt2 : x < vs2.length := by omega
            simp [World.cell?, this, hlt2]
          obtain ⟨-, q4, -, q6, qp⟩ := hHeld
          obtain ⟨Wr, hWr⟩ : ∃ Wr, Wr = w12.setCell ⟨kb, x, none⟩ (.slice (some ⟨ub, 0, none⟩) 1 1) := ⟨_, rfl⟩
          rw [← hWr] at hx5 hu5 qk q4 q6 qp ⊢
          have HXr : Hid (Ext S (qs ps + 2) W K0 Wr K2) := hx5
          have HU : Hid (Pl Wr.heap.size Wr (.slice (some ⟨ub, 0, none⟩) 1 1) ((S.ev (.many ps l hi)).1 (2 ^ x))) := hu5
          clear hWr hx5 hu5 hx3 hx11 C190 hx12 hx1c n3 n4 nw n6 np c12 f12 c120 f120 hvh2 hS10
        case' inr =>
          have HUr : Hid (Pl W.heap.size W vx ((S.ev (.many ps l hi)).1 (2 ^ x))) := hpl
          obtain ⟨ub, rfl, -⟩ := hpl
          have hq : ∀ W', (binOp BinOp.eql 110 (.slice (some ⟨ub, 0, none⟩) 1 1) (.slice none 0 0)).run Tryz.prog W' = .ok (.bool false) W' := fun W' => place_nil_no _ _ _ W'
          gi_wp2_with fail
          refine RF.region_held_round (S := (fun W' => W'.cell? ⟨w.heap.size + 1, 0, none⟩ = some (.pointer (some ⟨b, 0, none⟩)) ∧ W'.cell? ⟨b, 6, none⟩ = some (.slice (some ⟨kb, 0, none⟩) S.n S.n) ∧ W'.cell? ⟨PB, 0, none⟩ = some (.int .i64 (x : Nat)) ∧ W'.cell? ⟨kb, 0 + x, none⟩ = some (.slice (some ⟨ub, 0, none⟩) 1 1) ∧ W'.cell? ⟨kb, x, none⟩ = some (.slice (some ⟨ub, 0, none⟩) 1 1))) (by kernel_rfl) (by kernel_rfl) (fun h => h.elim fun _ h => h.elim fun _ h => h) (hS9) (fun hHeld => ?_)
          refine wpAnyH_take (i := 0) (oi := { dst := some 50, op := Op.load 157 (Operand.tmp 4), type := 157, pos := "walk.go:126", after := #[], guard := none }) (v := ?_) rfl (by kernel_rfl) (by kernel_rfl) (by kernel_rfl) (fun _ _ _ h => h) (Or.inl ⟨by rfl, ?_⟩) (by assumption) ?_
          rotate_left
          · (intro w hSw; (try dsimp only at hSw); go_simp) <;> try with_reducible rfl
          try simp only [Act.put, List.setIfInBounds_toArray, List.set_cons_zero, List.set_cons_succ]
          refine wpAnyH_take (i := 1) (oi := { dst := some 51, op := Op.nilCheck (Operand.tmp 50), type := 0, pos := "walk.go:126", after := #[{ on := 0, ground := Ground.data }], guard := none }) (v := ?_) rfl (by kernel_rfl) (by kernel_rfl) (by kernel_rfl) (fun _ _ _ h => h) (Or.inl ⟨by rfl, ?_⟩) (by assumption) ?_
          rotate_left
          · (intro w hSw; (try dsimp only at hSw); go_simp) <;> try with_reducible rfl
          try simp only [Act.put, List.setIfInBounds_toArray, List.set_cons_zero, List.set_cons_succ]
          refine wpAnyH_take (i := 2) (oi := { dst := some 52, op := Op.fieldAddr 229 (Operand.tmp 51) 6, type := 0, pos := "walk.go:126", after := #[{ on := 1, ground := Ground.data }], guard := none }) (v := ?_) rfl (by kernel_rfl) (by kernel_rfl) (by kernel_rfl) (fun _ _ _ h => h) (Or.inl ⟨by rfl, ?_⟩) (by assumption) ?_
          rotate_left
          · (intro w hSw; (try dsimp only at hSw); go_simp) <;> try with_reducible rfl
          try simp only [Act.put, List.setIfInBounds_toArray, List.set_cons_zero, List.set_cons_succ]
          refine wpAnyH_take (i := 3) (oi := { dst := some 53, op := Op.load 227 (Operand.tmp 52), type := 227, pos := "walk.go:126", after := #[{ on := 2, ground := Ground.data }], guard := none }) (v := ?_) rfl (by kernel_rfl) (by kernel_rfl) (by kernel_rfl) (fun _ _ _ h => h) (Or.inl ⟨by rfl, ?_⟩) (by assumption) ?_
          rotate_left
          · (intro w hSw; (try dsimp only at hSw); go_simp) <;> try with_reducible rfl
          try simp only [Act.put, List.setIfInBounds_toArray, List.set_cons_zero, List.set_cons_succ]
          refine wpAnyH_take (i := 4) (oi := { dst := some 54, op := Op.load 3 (Operand.tmp 8), type := 3, pos := "walk.go:126", after := #[], guard := none }) (v := ?_) rfl (by kernel_rfl) (by kernel_rfl) (by kernel_rfl) (fun _ _ _ h => h) (Or.inl ⟨by rfl, ?_⟩) (by assumption) ?_
          rotate_left
          · (intro w hSw; (try dsimp only at hSw); go_simp) <;> try with_reducible rfl
          try simp only [Act.put, List.setIfInBounds_toArray, List.set_cons_zero, List.set_cons_succ]
          refine wpAnyH_take (i := 5) (oi := { dst := some 55, op := Op.indexAddr 227 (Operand.tmp 53) (Operand.tmp 54), type := 0, pos := "walk.go:126", after := #[{ on := 3, ground := Ground.data }, { on := 4, ground := Ground.data }], guard := none }) (v := ?_) rfl (by kernel_rfl) (by kernel_rfl) (by kernel_rfl) (fun _ _ _ h => h) (Or.inl ⟨by rfl, ?_⟩) (by assumption) ?_
          rotate_left
          · (intro w hSw; (try dsimp only at hSw); go_simp) <;> try with_reducible rfl
          try simp only [Act.put, List.setIfInBounds_toArray, List.set_cons_zero, List.set_cons_succ]
          refine wpAnyH_take (i := 6) (oi := { dst := some 56, op := Op.load 110 (Operand.tmp 55), type := 110, pos := "walk.go:126", after := #[{ on := 5, ground := Ground.data }], guard := none }) (v := ?_) rfl (by kernel_rfl) (by kernel_rfl) (by kernel_rfl) (fun _ _ _ h => h) (Or.inl ⟨by rfl, ?_⟩) (by assumption) ?_
          rotate_left
          · (intro w hSw; (try dsimp only at hSw); go_simp) <;> try with_reducible rfl
          try simp only [Act.put, List.setIfInBounds_toArray, List.set_cons_zero, List.set_cons_succ]
          refine wpAnyH_take (i := 7) (oi := { dst := some 57, op := Op.binOp BinOp.eql 110 (Operand.tmp 56) (Operand.const (Value.slice none 0 0)) 110, type := 4, pos := "walk.go:126", after := #[{ on := 6, ground := Ground.data }], guard := none }) (v := ?_) rfl (by kernel_rfl) (by kernel_rfl) (by kernel_rfl) (fun _ _ _ h => h) (Or.inl ⟨by rfl, ?_⟩) (by assumption) ?_
          rotate_left
          · (intro w hSw; (try dsimp only at hSw); go_simp) <;> try with_reducible rfl
          try simp only [Act.put, List.setIfInBounds_toArray, List.set_cons_zero, List.set_cons_succ]
          refine wpAnyH_done (by kernel_rfl) ?_ _
          have hxd : Ext S (qs ps + 2) W K0 W.drew K0 := Ext.below hx.inv (by have := hx.low.size; have := HHH.out; omega) ((Below.refl _ W).drew)
          have hud : Pl W.drew.heap.size W.drew (.slice (some ⟨ub, 0, none⟩) 1 1) ((S.ev (.many ps l hi)).1 (2 ^ x)) := HUr.out
          obtain ⟨q4, q6, qp, -, qk⟩ := hHeld
          obtain ⟨Wr, hWr⟩ : ∃ Wr, Wr = W.drew := ⟨_, rfl⟩
          rw [← hWr] at hxd hud qk q4 q6 qp ⊢
          have HXr : Hid (Ext S (qs ps + 2) W K0 Wr K0) := hxd
          have HU : Hid (Pl Wr.heap.size Wr (.slice (some ⟨ub, 0, none⟩) 1 1) ((S.ev (.many ps l hi)).1 (2 ^ x))) := hud
          clear hWr hxd hud hcx hcx0 hS9
        all_goals
          gi_wp2_with fail
          have HOr : Hid (Wr.heap[OB]? = some (.cells #[.slice (some ⟨vb, 0, none⟩) 1 1] 110 (0, 0))) := (HXr.out.kept OB (lt_of_block HO.out) hko).trans HO.out
          have HVr := HV0.out.ext hx.inv HXr.out
          have HVd : Hid (Pl Wr.drew.heap.size Wr.drew _ _) := HVr
          have HUd : Hid (Pl Wr.drew.heap.size Wr.drew _ _) := HU.out
          clear HVr
          have hS11 : Wr.drew.cell? ⟨w.heap.size + 1, 0, none⟩ = some (.pointer (some ⟨b, 0, none⟩)) ∧ Wr.drew.cell? ⟨b, 6, none⟩ = some (.slice (some ⟨kb, 0, none⟩) S.n S.n) ∧ Wr.drew.cell? ⟨PB, 0, none⟩ = some (.int .i64 (x : Nat)) ∧ Wr.drew.cell? ⟨kb, 0 + x, none⟩ = some (.slice (some ⟨ub, 0, none⟩) 1 1) ∧ Wr.drew.cell? ⟨kb, x, none⟩ = some (.slice (some ⟨ub, 0, none⟩) 1 1) :=
            ⟨q4, q6, qp, by rw [Nat.zero_add]; exact qk, qk⟩
          have qo : Wr.cell? ⟨OB, 0, none⟩ = some (.slice (some ⟨vb, 0, none⟩) 1 1) := cell_of_row Wr OB 0 _ _ _ HOr.out
          have hne4 : w.heap.size + 1 ≠ OB := by have := HHH.out; have := HX.out.low.size; have := HGN.out.2.2.2.2; omega
          have hne6 : b ≠ OB := by rintro rfl; rw [hKb] at hko; cases hko
          have hneP : PB ≠ OB := by have := HHH.out; omega
          have hnek : kb ≠ OB := by rintro rfl; rw [hKk] at hko; cases hko
          refine RF.region_held_round (S := (fun W' => W'.cell? ⟨w.heap.size + 1, 0, none⟩ = some (.pointer (some ⟨b, 0, none⟩)) ∧ W'.cell? ⟨b, 6, none⟩ = some (.slice (some ⟨kb, 0, none⟩) S.n S.n) ∧ W'.cell? ⟨PB, 0, none⟩ = some (.int .i64 (x : Nat)) ∧ W'.cell? ⟨kb, 0 + x, none⟩ = some (.slice (some ⟨ub, 0, none⟩) 1 1) ∧ W'.cell? ⟨kb, x, none⟩ = some (.slice (some ⟨ub, 0, none⟩) 1 1))) (by kernel_rfl) (by kernel_rfl) (fun h => h.elim fun _ h => h.elim fun _ h => h) (hS11) (fun hHeld => ?_)
          refine wpAnyH_take (i := 1) (oi := { dst := some 74, op := Op.load 157 (Operand.tmp 4), type := 157, pos := "walk.go:129", after := #[], guard := none }) (v := ?_) rfl (by kernel_rfl) (by kernel_rfl) (by kernel_rfl) (fun _ _ _ h => h) (Or.inl ⟨by rfl, ?_⟩) (by assumption) ?_
          rotate_left
          · (intro w hSw; (try dsimp only at hSw); go_simp) <;> try with_reducible rfl
          try simp only [Act.put, List.setIfInBounds_toArray, List.set_cons_zero, List.set_cons_succ]
          refine wpAnyH_take (i := 2) (oi := { dst := some 75, op := Op.nilCheck (Operand.tmp 74), type := 0, pos := "walk.go:129", after := #[{ on := 1, ground := Ground.data }], guard := none }) (v := ?_) rfl (by kernel_rfl) (by kernel_rfl) (by kernel_rfl) (fun _ _ _ h => h) (Or.inl ⟨by rfl, ?_⟩) (by assumption) ?_
          rotate_left
          · (intro w hSw; (try dsimp only at hSw); go_simp) <;> try with_reducible rfl
          try simp only [Act.put, List.setIfInBounds_toArray, List.set_cons_zero, List.set_cons_succ]
          refine wpAnyH_take (i := 3) (oi := { dst := some 76, op := Op.fieldAddr 229 (Operand.tmp 75) 6, type := 0, pos := "walk.go:129", after := #[{ on := 2, ground := Ground.data }], guard := none }) (v := ?_) rfl (by kernel_rfl) (by kernel_rfl) (by kernel_rfl) (fun _ _ _ h => h) (Or.inl ⟨by rfl, ?_⟩) (by assumption) ?_
          rotate_left
          · (intro w hSw; (try dsimp only at hSw); go_simp) <;> try with_reducible rfl
          try simp only [Act.put, List.setIfInBounds_toArray, List.set_cons_zero, List.set_cons_succ]
          refine wpAnyH_take (i := 4) (oi := { dst := some 77, op := Op.load 227 (Operand.tmp 76), type := 227, pos := "walk.go:129", after := #[{ on := 3, ground := Ground.data }], guard := none }) (v := ?_) rfl (by kernel_rfl) (by kernel_rfl) (by kernel_rfl) (fun _ _ _ h => h) (Or.inl ⟨by rfl, ?_⟩) (by assumption) ?_
          rotate_left
          · (intro w hSw; (try dsimp only at hSw); go_simp) <;> try with_reducible rfl
          try simp only [Act.put, List.setIfInBounds_toArray, List.set_cons_zero, List.set_cons_succ]
          refine wpAnyH_take (i := 5) (oi := { dst := some 78, op := Op.load 3 (Operand.tmp 8), type := 3, pos := "walk.go:129", after := #[], guard := none }) (v := ?_) rfl (by kernel_rfl) (by kernel_rfl) (by kernel_rfl) (fun _ _ _ h => h) (Or.inl ⟨by rfl, ?_⟩) (by assumption) ?_
          rotate_left
          · (intro w hSw; (try dsimp only at hSw); go_simp) <;> try with_reducible rfl
          try simp only [Act.put, List.setIfInBounds_toArray, List.set_cons_zero, List.set_cons_succ]
          refine wpAnyH_take (i := 6) (oi := { dst := some 79, op := Op.indexAddr 227 (Operand.tmp 77) (Operand.tmp 78), type := 0, pos := "walk.go:129", after := #[{ on := 4, ground := Ground.data }, { on := 5, ground := Ground.data }], guard := none }) (v := ?_) rfl (by kernel_rfl) (by kernel_rfl) (by kernel_rfl) (fun _ _ _ h => h) (Or.inl ⟨by rfl, ?_⟩) (by assumption) ?_
          rotate_left
          · (intro w hSw; (try dsimp only at hSw); go_simp) <;> try with_reducible rfl
          try simp only [Act.put, List.setIfInBounds_toArray, List.set_cons_zero, List.set_cons_succ]
          refine wpAnyH_take (i := 7) (oi := { dst := some 80, op := Op.load 110 (Operand.tmp 79), type := 110, pos := "walk.go:129", after := #[{ on := 6, ground := Ground.data }], guard := none }) (v := ?_) rfl (by kernel_rfl) (by kernel_rfl) (by kernel_rfl) (fun _ _ _ h => h) (Or.inl ⟨by rfl, ?_⟩) (by assumption) ?_
          rotate_left
          · (intro w hSw; (try dsimp only at hSw); go_simp) <;> try with_reducible rfl
          try simp only [Act.put, List.setIfInBounds_toArray, List.set_cons_zero, List.set_cons_succ]
          refine wpAnyH_ready (rs := [0]) (by kernel_rfl) (by simp) ?_
          refine AllReadyH.cons (o := { dst := some 73, op := Op.load 110 (Operand.tmp 7), type := 110, pos := "walk.go:129", after := #[], guard := none }) rfl (fun K hK => ?_) AllReadyH.nil
          go_simp
          refine hK.out _ _ ?_ (fun hHeld => ?_)
          · exact hHeld
          clear hK K
          try simp only [Act.put, List.setIfInBounds_toArray, List.set_cons_zero, List.set_cons_succ]
          refine wpAnyH_ready (rs := [8]) (by kernel_rfl) (by simp) ?_
          refine AllReadyH.cons (o := { dst := some 81, op := Op.call { callee := Callee.value (Operand.func 135), args := #[Operand.tmp 73, Operand.tmp 80], argTypes := #[110, 110] }, type := 110, pos := "walk.go:129", after := #[{ on := 0, ground := Ground.data }, { on := 7, ground := Ground.data }], guard := none }) rfl (fun K hK => ?_) AllReadyH.nil
          go_simp
          refine (HVd.out.or HUd.out).mono ?_
          rintro e w13 ⟨⟨v13, rfl, hv13⟩, hb13⟩
          have HV13 : Hid (Pl w13.heap.size w13 v13 (acc (MN.rep (S.ev ps).2.1 l hi) pre ||| (S.ev (.many ps l hi)).1 (2 ^ x))) := hv13
          obtain ⟨vb13, rfl, -⟩ := hv13
          go_wp2_with fail
          refine hK.out _ _ ?_ (fun hHeld => ?_)
          · exact ⟨cell_below hHeld.1 hb13, cell_below hHeld.2.1 hb13, cell_below hHeld.2.2.1 hb13, cell_below hHeld.2.2.2.1 hb13, cell_below hHeld.2.2.2.2 hb13⟩
          clear hK K
          try simp only [Act.put, List.setIfInBounds_toArray, List.set_cons_zero, List.set_cons_succ]
          have o13 : w13.heap[OB]? = some (.cells #[.slice (some ⟨vb, 0, none⟩) 1 1] 110 (0, 0)) := (hb13.block OB (by exact lt_of_block HOr.out)).trans HOr.out
          have c13 : w13.cell? ⟨OB, 0, none⟩ = some (.slice (some ⟨vb, 0, none⟩) 1 1) := cell_of_row w13 OB 0 _ _ _ o13
          have f13 : w13.frozen? ⟨OB, 0, none⟩ = false := frozen_of_row w13 OB 0 _ _ o13
          refine wpAnyH_ready (rs := [9]) (by kernel_rfl) (by simp) ?_
          refine AllReadyH.cons (o := { dst := none, op := Op.store 110 (Operand.tmp 7) (Operand.tmp 81), type := 0, pos := "walk.go:129", after := #[{ on := 8, ground := Ground.data }, { on := 8, ground := Ground.chain }, { on := 0, ground := Ground.phase }, { on := 1, ground := Ground.phase }, { on := 2, ground := Ground.phase }, { on := 3, ground := Ground.phase }, { on := 4, ground := Ground.phase }, { on := 5, ground := Ground.phase }, { on := 6, ground := Ground.phase }, { on := 7, ground := Ground.phase }, { on := 8, ground := Ground.phase }], guard := none }) rfl (fun K hK => ?_) AllReadyH.nil
          go_simp
          refine hK.out _ _ ?_ (fun hHeld => ?_)
          · exact ⟨(cell_set_other (by exact hne4)).trans hHeld.1, (cell_set_other (by exact hne6)).trans hHeld.2.1, (cell_set_other (by exact hneP)).trans hHeld.2.2.1, (cell_set_other (by exact hnek)).trans hHeld.2.2.2.1, (cell_set_other (by exact hnek)).trans hHeld.2.2.2.2⟩
          clear hK K
          try simp only [Act.put, List.setIfInBounds_toArray, List.set_cons_zero, List.set_cons_succ]
          refine wpAnyH_done (by kernel_rfl) ?_ _
          have hxF := HXr.out.trans (Ext.below (r := qs ps + 2) HXr.out.inv (by have := HXr.out.low.size; have := hx.low.size; have := HHH.out; omega) (((Below.refl _ Wr).drew).trans hb13))
          have hgr : w13.grownBy (w13.setCell ⟨OB, 0, none⟩ (.slice (some ⟨vb13, 0, none⟩) 1 1)) (some OB) := ⟨rfl, rfl, rfl, by simp, fun k _ hk => heap_setCell_other w13 ⟨OB, 0, none⟩ k _ (fun e => hk (by rw [e]))⟩
          have hno : (∀ q : Nat, w13.cell? ⟨OB, 0, none⟩ ≠ some (.int .u64 q)) ∧ ∀ arr : Array Value, w13.heap[OB]? ≠ some (.cells arr 157 (0, 0)) := by
            refine ⟨fun q hc => ?_, fun arr ha => ?_⟩
            · rw [c13] at hc; cases hc
            · rw [o13] at ha; cases ha
          have hOF := hxF.old OB (lt_of_block HO.out) hko
          have hEF := hxF.old EB hsz hke
          have R1 : Hid (KeepsFrom w4.heap.size W (w13.setCell ⟨OB, 0, none⟩ (.slice (some ⟨vb13, 0, none⟩) 1 1))) := (hxF.keepsFrom hx.inv _).trans (KeepsFrom.of_grownBy hgr (fun j hj => by cases hj; have := HHH.out; omega))
          have R2 : Hid (KpE 8 EB W (w13.setCell ⟨OB, 0, none⟩ (.slice (some ⟨vb13, 0, none⟩) 1 1))) := by
            refine ⟨hxF.low.setCell (p := ⟨OB, 0, none⟩) (by have := HHH.out; show 8 ≤ OB; omega) _, ?_⟩
            rw [heap_setCell_other w13 ⟨OB, 0, none⟩ EB _ (by have := HHH.out; show EB ≠ OB; omega)]
            exact hxF.kept EB hsz hke
          have R3 : Hid (ManI S (qs ps + 2) Wc H b OB EB (.slice (some ⟨kb, 0, none⟩) S.n S.n) (MN.rep (S.ev ps).2.1 l hi) (pre ++ [x]) (w13.setCell ⟨OB, 0, none⟩ (.slice (some ⟨vb13, 0, none⟩) 1 1))) := by
            refine ⟨_, _, (hx.trans hxF).row (by have := HHH.out; omega) hgr (fun k e => ?_), heap_setCell_same w13 OB 0 _ 110 _ o13, hOF, hEF, ?_, ?_, ?_⟩
            · cases e; exact ⟨by have := HHH.out; omega, hOF, hno⟩
            · rw [acc_snoc]; exact HV13.out.row hgr (fun k e => by cases e; exact hno.1)
            · have := hxF.low.size; simp; omega
            · exact (cell_set_other (by exact hne6)).trans (cell_below q6 (((Below.refl _ Wr).drew).trans hb13))
          clear hxF hgr hno hOF hEF hS11 qo c13 f13 o13 hHeld hb13 q4 q6 qp qk hx
          gi_wp2_with fail
          exact ⟨R1.out, R2.out, R3.out⟩

end Go.Proofs.YtjbdlihlcoldlaaGreatDoor.M

namespace Go.Proofs.YtjbdlihlcoldlaaGreatDoor
open Go.RowKit

theorem right_get {s : List RS.Rg} : ∀ {a : Int} (_ : RS.rightFrom a s = true) (j : Nat) (hj : j < s.length), a + 1 < s[j].1 ∧ s[j].1 ≤ s[j].2 ∧ s[j].2 ≤ 1114111 := by
  induction s with
  | nil => intro a _ j hj; simp at hj
  | cons r s ih =>
    intro a h j hj
    rw [RS.rightFrom_cons] at h
    cases j with
    | zero => exact ⟨h.1, h.2.1, h.2.2.1⟩
    | succ j =>
      have := ih h.2.2.2 j (by simpa using hj)
      refine ⟨?_, this.2⟩
      have h1 := this.1
      exact Int.lt_trans (show a + 1 < r.2 + 1 by omega) h1

theorem right_lt_get {s : List RS.Rg} : ∀ {a : Int} (_ : RS.rightFrom a s = true) (i j : Nat) (hij : i < j) (hj : j < s.length), (s[i]'(by omega)).2 + 1 < s[j].1 := by
  induction s with
  | nil => intro a _ i j _ hj; simp at hj
  | cons r s ih =>
    intro a h i j hij hj
    rw [RS.rightFrom_cons] at h
    cases j with
    | zero => omega
    | succ j =>
      cases i with
      | zero => exact (right_get h.2.2.2 j (by simpa using hj)).1
      | succ i => exact ih h.2.2.2 i j (by omega) (by simpa using hj)

end Go.Proofs.YtjbdlihlcoldlaaGreatDoor
