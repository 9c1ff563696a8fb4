/- each: what it hands back walks a set's places, rising. -/
import Derived.Test.YtjbdlihlcoldlaaGreatDoorG04
import Derived.Test.YtjbdlihlcoldlaaGreatDoorG05
import Derived.RangeFuncBound
import Derived.RangeFuncCalls
import Derived.Shelf.RegionOpen
import Derived.WalkKit
import Derived.OwnWalkIn
import Derived.TacticsInMore
import Derived.LoopNIn
import Derived.LoopIn
import Derived.Test.YtjbdlihlcoldlaaGreatDoorG03
import Derived.Deep.RegionHeld3
import Derived.OrdersIn
import Derived.CallsIn
import Derived.RangeFuncNested
import Derived.RangeFuncLeaves
namespace Go.Proofs.YtjbdlihlcoldlaaGreatDoor.M
open Go.RowKit Go.Shelf

attribute [local go_sem] Oper.semAt_some
attribute [local irreducible] spots

/-- What a round must keep for the iterator. -/
def KpE (n₀ B : Nat) (W W' : World) : Prop := Below n₀ W W' ∧ W'.heap[B]? = W.heap[B]?

set_option maxHeartbeats 1000000 in
set_option maxRecDepth 100000 in
theorem each_walks (n n₀ B b q : Nat) (hn : 1 ≤ n) (hq : q < 18446744073709551616) (w : World) (hB : n₀ ≤ w.heap.size) (hn3 : 3 < n₀) (hT : TZ64 w) (hs : w.heap[B]? = some (.cells #[.slice (some ⟨b, 0, none⟩) 1 1] 110 (0, 0))) (hb : b < w.heap.size) (hc : w.cell? ⟨b, 0, none⟩ = some (.int .u64 q)) :
    RFC.Walks n Tryz.prog 213 #[.pointer (some ⟨B, 0, none⟩)] (fun (k : Nat) => #[.int .i64 k]) (KpE n₀ B) (fun pre x => ∃ post, spots 64 q = pre ++ x :: post) (fun xs => xs = spots 64 q) w := by
  intro l J Jx W hW hY hJ0
  have hsW := (hW.block B (lt_of_block hs)).trans hs
  have hcW := (hW.cell (p := ⟨b, 0, none⟩) (by exact hb)).trans hc
  have hTW := hT.below (hW.mono hB) hn3
  clear hs hc hT
  have HY : Hid (∀ pre x W1, J pre W1 → (∃ post, spots 64 q = pre ++ x :: post) → YieldAt Fence.wide (n - 1) Tryz.prog l #[.int .i64 (x : Nat)] W1 fun e W' =>
      (e = .returned (.bool true) ∧ J (pre ++ [x]) W' ∧ KpE n₀ B W1 W') ∨ (e = .returned (.bool false) ∧ Jx W')) := hY
  clear hY
  refine callsIn_of_wp Tryz.func213 rfl trivial ?_ rfl
  simp only [Tryz.ntmps213, List.size_toArray, List.length_cons, List.length_nil, Nat.reduceAdd, Nat.reduceSub, Array.replicate_succ, Array.replicate_zero, List.push_toArray, List.append_toArray, List.nil_append, List.cons_append]
  have hc0 := cell_of_row W B 0 _ _ _ hsW
  gi_wp2
  refine wpIn_loop_rounds 2 ?_
  rw [roundsIn_succ]
  gi_wp2_with fail
  have HT : Hid (TZ64 W) := hTW
  clear hTW hc0 hsW hcW
  gi_loopw [4] (fun v wr => ∃ (pre : List Nat) (y : Nat), v = .int .u64 y ∧ y < 18446744073709551616 ∧ spots 64 q = pre ++ spots 64 y ∧ TZ64 wr ∧ J pre wr) (fun v _ => (intOf v).toNat)
  case atStart => exact ⟨[], q, rfl, hq, (List.nil_append _).symm, HT.out, hJ0⟩
  case round =>
    obtain ⟨pre, y, rfl, hy, hsp, ht, hj⟩ := hrel
    by_cases hy0 : y = 0
    · subst hy0
      gi_wp2_with fail
      rw [roundsIn_succ]
      gi_wp2
      go_end0
      refine ⟨⟨_, rfl⟩, .inl ⟨pre, ?_, hj⟩⟩
      rw [hsp, spots_zero, List.append_nil]
    · obtain ⟨i, hi, hl⟩ := exists_lowest 64 y hy hy0
      have C := zeros_any y i hi hl hy wr ht
      have hz : ((y : Int) == 0) = false := by simp; omega
      have hsy := spots_strip hl 64 hi
      rw [hsy] at hsp
      obtain ⟨fn, tmps, assign, body, hyl, hR⟩ := HY.out pre i wr hj ⟨_, hsp⟩
      have hb1 : bits .and .u64 (y : Int) ((y : Int) - 1) = ((y &&& (y - 1) : Nat) : Int) := by
        rw [show (y : Int) - 1 = ((y - 1 : Nat) : Int) by omega, and_u64 _ _ hy (by omega)]
      have HS : Hid (spots 64 q = (pre ++ [i]) ++ spots 64 (y &&& (y - 1))) := by
        show _ = _
        rw [hsp, List.append_assoc]; rfl
      have HL : Hid (y &&& (y - 1) < y) := strip_lt hl
      have HT2 : Hid (TZ64 wr) := ht
      have hwi : IntKind.i64.wrap (i : Int) = i := wrap_small (by omega) (by omega)
      generalize y &&& (y - 1) = y2 at hb1 HS HL
      clear hsp hsy hl ht hj hJ0
      gi_wp2_with fail
      refine ⟨trivial, (callsIn_wide.2 C).mono ?_⟩
      rintro e W1 ⟨rfl, rfl⟩
      clear C
      gi_wp2_with fail
      refine hR.mono ?_
      rintro e W3 (⟨rfl, hj3, hk3⟩ | ⟨rfl, hx3⟩)
      · gi_wp2
        go_roundw
        case rel => exact ⟨pre ++ [i], y2, rfl, Nat.lt_trans HL.out hy, HS.out, HT2.out.below hk3.1 hn3, hj3⟩
        case measure => have := HL.out; simp [intOf]; omega
      · gi_wp2
        refine bodyPost_ret (results_none rfl _ _ _) rfl ?_
        exact ⟨⟨_, rfl⟩, .inr hx3⟩

set_option maxHeartbeats 1000000 in
/-- each: the set is boxed; what is handed back has the box. -/
theorem each_any (b : Nat) (w : World) :
    Calls Tryz.prog 191 #[.slice (some ⟨b, 0, none⟩) 1 1] w fun e w' => e = .returned (.func (.func 213) #[] #[.pointer (some ⟨w.heap.size, 0, none⟩)]) ∧ w' = w.alloc (.cells #[.slice (some ⟨b, 0, none⟩) 1 1] 110) := by
  go_enter Tryz.func191, Tryz.ntmps191
  go_wp2_with fail
  go_ret
  exact ⟨rfl, rfl⟩

end Go.Proofs.YtjbdlihlcoldlaaGreatDoor.M

namespace Go.Proofs.YtjbdlihlcoldlaaGreatDoor.M
open Go.RowKit Go.Shelf

theorem cell_lt {w : World} {a : Addr} {v : Value} (h : w.cell? a = some v) : a.block < w.heap.size := by
  rcases Nat.lt_or_ge a.block w.heap.size with h1 | h1
  · exact h1
  · simp [World.cell?, Array.getElem?_eq_none h1] at h

/-- What a block is: a path, or what a Many has known. -/
inductive Ty where
  | path (q : MN.Q)
  | known (q : MN.Q)

abbrev Gh := Nat → Option Ty

/-- These pointers lead each to a path of the row. -/
def RowOk (G : Gh) : List Value → MN.Q → Prop
  | vs, .cons p ps => ∃ b us, vs = .pointer (some ⟨b, 0, Option.none⟩) :: us ∧ G b = some (.path p) ∧ RowOk G us ps
  | vs, .nil => vs = []
  | _, _ => False

/-- A slice of pointers to paths. -/
def PartsAt (w : World) (v : Value) (vs : List Value) : Prop :=
  ∃ ao cap, v = .slice ao vs.length cap ∧ vs.length ≤ cap ∧ cap ≤ maxLen ∧ (vs ≠ [] → ∃ (b : Nat) (arr : Array Value), ao = some ⟨b, 0, Option.none⟩ ∧ w.heap[b]? = some (.cells arr 157 (0, 0)) ∧ ∀ (k : Nat) (u : Value), vs[k]? = some u → arr[k]? = some u)

/-- A walk: from where it goes, how many places there are, where Edge stands. -/
structure Wk where
  ends : Bool
  e : Nat
  n : Nat

def Wk.ev (S : Wk) (q : MN.Q) : (Nat → Nat) × (Nat → Nat) × (Nat → Nat) := MN.ev S.ends S.e q

def KvOk (S : Wk) (G : Gh) (q : MN.Q) (v : Value) : Prop := v = .slice none 0 0 ∨ ∃ kb, v = .slice (some ⟨kb, 0, Option.none⟩) S.n S.n ∧ G kb = some (.known q)

/-- A path's block. -/
def Node (S : Wk) (G : Gh) (w : World) (b : Nat) (q : MN.Q) : Prop :=
  ∃ (code : Nat) (uv pv : Value) (lo hi asked : Int) (kv : Value), w.heap[b]? = some (.cells #[.int .i64 code, uv, pv, .int .i64 lo, .int .i64 hi, .int .i64 asked, kv] 229 (0, 0)) ∧
    match q with
    | .over u => (code = 1 ∨ code = 2) ∧ Pl w.heap.size w uv u
    | .edge => code = 3
    | .cat ps => code = 4 ∧ ∃ vs, PartsAt w pv vs ∧ RowOk G vs ps
    | .alt ps => code = 5 ∧ ∃ vs, PartsAt w pv vs ∧ RowOk G vs ps
    | .many ps l h => code = 6 ∧ lo = (l : Nat) ∧ hi = h ∧ l ≤ 12 ∧ -1 ≤ h ∧ h ≤ 12 ∧ (-9223372036854775808 ≤ asked ∧ asked ≤ 9223372036854775807) ∧ (∃ vs, PartsAt w pv vs ∧ RowOk G vs ps) ∧ KvOk S G (.many ps l h) kv
    | _ => False

/-- What a Many has known: of each place, whither it goes from there. -/
def Known (S : Wk) (w : World) (b : Nat) (q : MN.Q) : Prop :=
  ∃ vs : List Value, vs.length = S.n ∧ w.heap[b]? = some (.cells vs.toArray 110 (0, 0)) ∧ ∀ (i : Nat) v, vs[i]? = some v → v = .slice none 0 0 ∨ Pl w.heap.size w v ((S.ev q).1 (2 ^ i))

def Inv (S : Wk) (G : Gh) (w : World) : Prop := ∀ b t, G b = some t → 8 ≤ b ∧ match t with
  | .path q => Node S G w b q
  | .known q => Known S w b q

theorem Inv.lt {S : Wk} {G : Gh} {w : World} (h : Inv S G w) {b : Nat} {t : Ty} (hb : G b = some t) : b < w.heap.size := by
  obtain ⟨-, h1⟩ := h b t hb
  cases t with
  | path q =>
    obtain ⟨_, _, _, _, _, _, _, h2, _⟩ := h1
    exact lt_of_block h2
  | known q =>
    obtain ⟨_, _, h2, _⟩ := h1
    exact lt_of_block h2

theorem Inv.zero {S : Wk} {G : Gh} {w : World} (h : Inv S G w) {b : Nat} (hb : w.heap.size ≤ b) : G b = none := by
  cases hg : G b with
  | none => rfl
  | some t => have := h.lt hg; omega

/-- A block of another kind is none of a path's. -/
theorem Inv.tag {S : Wk} {G : Gh} {w : World} (h : Inv S G w) {b : Nat} {cs : Array Value} {t : TypeId} {p : Nat × Nat} (hb : w.heap[b]? = some (.cells cs t p)) (h1 : t ≠ 229) (h2 : t ≠ 110) : G b = none := by
  cases hg : G b with
  | none => rfl
  | some x =>
    obtain ⟨-, h3⟩ := h b x hg
    cases x with
    | path q =>
      obtain ⟨_, _, _, _, _, _, _, h4, _⟩ := h3
      rw [hb] at h4
      injection h4 with h4
      injection h4 with _ h5
      exact absurd h5 h1
    | known q =>
      obtain ⟨_, _, h4, _⟩ := h3
      rw [hb] at h4
      injection h4 with h4
      injection h4 with _ h5
      exact absurd h5 h2

/-- A block that holds no cells is none, either. -/
theorem Inv.free {S : Wk} {G : Gh} {w : World} (h : Inv S G w) {b : Nat} {o : Obj} (hb : w.heap[b]? = some o) (ho : o.isCells = false) : G b = none := by
  cases hg : G b with
  | none => rfl
  | some x =>
    obtain ⟨-, h3⟩ := h b x hg
    cases x with
    | path q =>
      obtain ⟨_, _, _, _, _, _, _, h4, _⟩ := h3
      rw [hb] at h4
      injection h4 with h4
      subst h4
      cases ho
    | known q =>
      obtain ⟨_, _, h4, _⟩ := h3
      rw [hb] at h4
      injection h4 with h4
      subst h4
      cases ho

/-- A word's block is none, either. -/
theorem Inv.word {S : Wk} {G : Gh} {w : World} (h : Inv S G w) {b q : Nat} (hb : w.cell? ⟨b, 0, Option.none⟩ = some (.int .u64 q)) : G b = none := by
  cases hg : G b with
  | none => rfl
  | some x =>
    obtain ⟨-, h3⟩ := h b x hg
    cases x with
    | path q' =>
      obtain ⟨_, _, _, _, _, _, _, h4, _⟩ := h3
      have : w.cell? ⟨b, 0, Option.none⟩ = some _ := cell_of_row w b 0 _ _ _ h4
      rw [hb] at this
      injection this with this
      injection this with e1 _
      cases e1
    | known q' =>
      obtain ⟨vs, _, h4, h5⟩ := h3
      have hc : w.cell? ⟨b, 0, Option.none⟩ = vs[0]? := by simp [World.cell?, h4]
      rw [hb] at hc
      rcases h5 0 _ hc.symm with h6 | ⟨_, h6, _⟩
      · cases h6
      · cases h6

/-- How great a path is. -/
def qs : MN.Q → Nat
  | .over _ => 1
  | .edge => 1
  | .never => 1
  | .nil => 1
  | .cat ps => qs ps + 1
  | .alt ps => qs ps + 1
  | .many ps _ _ => qs ps + 1
  | .cons p ps => qs p + qs ps + 1

def rank : Ty → Nat
  | .path q => qs q
  | .known q => qs q

/-- A walk turns what paths below a rank have known, alone. -/
structure Ext (S : Wk) (r : Nat) (w : World) (G : Gh) (w' : World) (G' : Gh) : Prop where
  low : Below 8 w w'
  old : ∀ b, b < w.heap.size → G b = none → G' b = none
  more : ∀ b t, G b = some t → G' b = some t
  kept : ∀ b, b < w.heap.size → G b = none → w'.heap[b]? = w.heap[b]?
  high : ∀ b t, G b = some t → r ≤ rank t → w'.heap[b]? = w.heap[b]?
  inv : Inv S G' w'

theorem Ext.refl {S : Wk} {r : Nat} {w : World} {G : Gh} (h : Inv S G w) : Ext S r w G w G := ⟨Below.refl _ _, fun _ _ h => h, fun _ _ h => h, fun _ _ _ => rfl, fun _ _ _ _ => rfl, h⟩

theorem Ext.trans {S : Wk} {r : Nat} {w w' w'' : World} {G G' G'' : Gh} (h : Ext S r w G w' G') (k : Ext S r w' G' w'' G'') : Ext S r w G w'' G'' :=
  ⟨h.low.trans k.low, fun b hb hg => k.old b (Nat.lt_of_lt_of_le hb h.low.size) (h.old b hb hg), fun b t hg => k.more b t (h.more b t hg),
    fun b hb hg => (k.kept b (Nat.lt_of_lt_of_le hb h.low.size) (h.old b hb hg)).trans (h.kept b hb hg), fun b t hg hr => (k.high b t (h.more b t hg) hr).trans (h.high b t hg hr), k.inv⟩

theorem Ext.mono {S : Wk} {r r' : Nat} {w w' : World} {G G' : Gh} (h : Ext S r w G w' G') (hr : r ≤ r') : Ext S r' w G w' G' :=
  ⟨h.low, h.old, h.more, h.kept, fun b t hg hk => h.high b t hg (Nat.le_trans hr hk), h.inv⟩

theorem pl_lt {B : Nat} {w : World} {v : Value} {q : Nat} (h : Pl B w v q) : ∃ b, v = .slice (some ⟨b, 0, Option.none⟩) 1 1 ∧ w.cell? ⟨b, 0, Option.none⟩ = some (.int .u64 q) ∧ b < w.heap.size ∧ q < 18446744073709551616 := by
  obtain ⟨b, rfl, -, h1, h2⟩ := h
  exact ⟨b, rfl, h1, cell_lt h1, h2⟩

theorem Pl.ext {S : Wk} {r : Nat} {w w' : World} {G G' : Gh} {v : Value} {q : Nat} (h : Pl w.heap.size w v q) (hI : Inv S G w) (hx : Ext S r w G w' G') : Pl w'.heap.size w' v q := by
  obtain ⟨b, rfl, hb, hc, hq⟩ := h
  have := hx.low.size
  exact ⟨b, rfl, by omega, (World.cell?_of_block (a := ⟨b, 0, Option.none⟩) (hx.kept b hb (hI.word hc))).trans hc, hq⟩

theorem PartsAt.ext {S : Wk} {r : Nat} {w w' : World} {G G' : Gh} {v : Value} {vs : List Value} (h : PartsAt w v vs) (hI : Inv S G w) (hx : Ext S r w G w' G') : PartsAt w' v vs := by
  obtain ⟨ao, cap, rfl, h1, h2, h3⟩ := h
  refine ⟨ao, cap, rfl, h1, h2, fun hne => ?_⟩
  obtain ⟨b, arr, rfl, h4, h5⟩ := h3 hne
  exact ⟨b, arr, rfl, (hx.kept b (lt_of_block h4) (hI.tag h4 (by decide) (by decide))).trans h4, h5⟩

/-- The walk's own block. -/
def WalkAt (S : Wk) (w : World) (wb : Nat) : Prop :=
  8 ≤ wb ∧ 1 ≤ S.n ∧ S.n ≤ 64 ∧ ∃ uv mv av ev', w.heap[wb]? = some (.cells #[uv, mv, .int .i64 S.n, .bool S.ends, av, ev'] 154 (0, 0)) ∧ Pl w.heap.size w ev' S.e

theorem WalkAt.ext {S : Wk} {r : Nat} {w w' : World} {G G' : Gh} {wb : Nat} (h : WalkAt S w wb) (hI : Inv S G w) (hx : Ext S r w G w' G') : WalkAt S w' wb := by
  obtain ⟨h0, h1, h2, uv, mv, av, ev', h3, h4⟩ := h
  exact ⟨h0, h1, h2, uv, mv, av, ev', (hx.kept wb (lt_of_block h3) (hI.tag h3 (by decide) (by decide))).trans h3, h4.ext hI hx⟩

theorem WalkAt.size {S : Wk} {w : World} {wb : Nat} (h : WalkAt S w wb) : 8 ≤ w.heap.size := by
  obtain ⟨h0, _, _, _, _, _, _, h3, _⟩ := h
  have := lt_of_block h3
  omega

/-- What a block of a path must be. -/
def Is (S : Wk) (G : Gh) (w : World) (b : Nat) : Ty → Prop
  | .path q => Node S G w b q
  | .known q => Known S w b q

theorem Inv.is {S : Wk} {G : Gh} {w : World} (h : Inv S G w) {b : Nat} {t : Ty} (hb : G b = some t) : Is S G w b t := by
  obtain ⟨-, h1⟩ := h b t hb
  cases t <;> exact h1

theorem Inv.ge {S : Wk} {G : Gh} {w : World} (h : Inv S G w) {b : Nat} {t : Ty} (hb : G b = some t) : 8 ≤ b := (h b t hb).1

/-- Words and rows of pointers stay; a path's block stays, or is such as it must be. -/
theorem Inv.turn2 {S : Wk} {G : Gh} {w w' : World} (h : Inv S G w) (hsz : w.heap.size ≤ w'.heap.size) (hw : ∀ (b q : Nat), w.cell? ⟨b, 0, Option.none⟩ = some (.int .u64 q) → w'.heap[b]? = w.heap[b]?)
    (hp : ∀ (b : Nat) (arr : Array Value), w.heap[b]? = some (.cells arr 157 (0, 0)) → w'.heap[b]? = w.heap[b]?)
    (hg : ∀ b t, G b = some t → w'.heap[b]? = w.heap[b]? ∨ Is S G w' b t) : Inv S G w' := by
  have hpl : ∀ {v q}, Pl w.heap.size w v q → Pl w'.heap.size w' v q := by
    rintro v q ⟨b, rfl, hb, hc, hq⟩
    exact ⟨b, rfl, by omega, (World.cell?_of_block (a := ⟨b, 0, Option.none⟩) (hw b q hc)).trans hc, hq⟩
  have hpa : ∀ {v vs}, PartsAt w v vs → PartsAt w' v vs := by
    rintro v vs ⟨ao, cap, rfl, k1, k2, k3⟩
    refine ⟨ao, cap, rfl, k1, k2, fun hne => ?_⟩
    obtain ⟨b, arr, rfl, k4, k5⟩ := k3 hne
    exact ⟨b, arr, rfl, (hp b arr k4).trans k4, k5⟩
  intro b t hb
  refine ⟨h.ge hb, ?_⟩
  have h1 := h.is hb
  rcases hg b t hb with h2 | h2
  · cases t with
    | path q =>
      obtain ⟨code, uv, pv, lo, hi, asked, kv, k1, k2⟩ := h1
      refine ⟨code, uv, pv, lo, hi, asked, kv, h2.trans k1, ?_⟩
      cases q with
      | over u => exact ⟨k2.1, hpl k2.2⟩
      | edge => exact k2
      | cat ps => obtain ⟨e1, vs, e2, e3⟩ := k2; exact ⟨e1, vs, hpa e2, e3⟩
      | alt ps => obtain ⟨e1, vs, e2, e3⟩ := k2; exact ⟨e1, vs, hpa e2, e3⟩
      | many ps l hh => obtain ⟨e1, e2, e3, e4, e5, e6, e7, ⟨vs, e8, e9⟩, e10⟩ := k2; exact ⟨e1, e2, e3, e4, e5, e6, e7, ⟨vs, hpa e8, e9⟩, e10⟩
      | never => exact k2
      | nil => exact k2
      | cons p ps => exact k2
    | known q =>
      obtain ⟨vs, k1, k2, k3⟩ := h1
      refine ⟨vs, k1, h2.trans k2, fun i v hv => ?_⟩
      rcases k3 i v hv with e | e
      · exact .inl e
      · exact .inr (hpl e)
  · cases t <;> exact h2

/-- What is no path's stays; a path's block stays, or is such as it must be. -/
theorem Inv.turn {S : Wk} {G : Gh} {w w' : World} (h : Inv S G w) (hsz : w.heap.size ≤ w'.heap.size) (hk : ∀ b, b < w.heap.size → G b = none → w'.heap[b]? = w.heap[b]?)
    (hg : ∀ b t, G b = some t → w'.heap[b]? = w.heap[b]? ∨ Is S G w' b t) : Inv S G w' :=
  h.turn2 hsz (fun b _ hc => hk b (cell_lt hc) (h.word hc)) (fun b _ ha => hk b (lt_of_block ha) (h.tag ha (by decide) (by decide))) hg

/-- New blocks alone: all stays what it is. -/
theorem Inv.below {S : Wk} {G : Gh} {w w' : World} (h : Inv S G w) (hb : Below w.heap.size w w') : Inv S G w' :=
  h.turn hb.size (fun b hl _ => hb.block b hl) fun b _ hg => .inl (hb.block b (h.lt hg))

/-- One more block of a path's. -/
def Gh.put (G : Gh) (b : Nat) (t : Ty) : Gh := fun k => if k = b then some t else G k

theorem Gh.put_same (G : Gh) (b : Nat) (t : Ty) : G.put b t b = some t := if_pos rfl
theorem Gh.put_other (G : Gh) {b k : Nat} (t : Ty) (h : k ≠ b) : G.put b t k = G k := if_neg h
theorem Gh.put_of {G : Gh} {b : Nat} {t : Ty} (hn : G b = none) {k : Nat} {x : Ty} (h : G k = some x) : G.put b t k = some x := by
  rw [Gh.put_other]
  · exact h
  · rintro rfl; rw [hn] at h; cases h

theorem RowOk.more {G H : Gh} (hx : ∀ b x, G b = some x → H b = some x) : ∀ {q : MN.Q} {vs : List Value}, RowOk G vs q → RowOk H vs q := by
  intro q
  induction q with
  | cons p ps _ ih =>
    rintro vs ⟨b, us, rfl, h1, h2⟩
    exact ⟨b, us, rfl, hx _ _ h1, ih h2⟩
  | nil => exact fun h => h
  | _ => exact fun h => h.elim

theorem Is.more {S : Wk} {G H : Gh} (hx : ∀ b x, G b = some x → H b = some x) {w : World} {b : Nat} {t : Ty} (h : Is S G w b t) : Is S H w b t := by
  cases t with
  | known q => exact h
  | path q =>
    obtain ⟨code, uv, pv, lo, hi, asked, kv, k1, k2⟩ := h
    refine ⟨code, uv, pv, lo, hi, asked, kv, k1, ?_⟩
    cases q with
    | over u => exact k2
    | edge => exact k2
    | cat ps => obtain ⟨e1, vs, e2, e3⟩ := k2; exact ⟨e1, vs, e2, e3.more hx⟩
    | alt ps => obtain ⟨e1, vs, e2, e3⟩ := k2; exact ⟨e1, vs, e2, e3.more hx⟩
    | many ps l hh =>
      obtain ⟨e1, e2, e3, e4, e5, e6, e7, ⟨vs, e8, e9⟩, e10⟩ := k2
      refine ⟨e1, e2, e3, e4, e5, e6, e7, ⟨vs, e8, e9.more hx⟩, ?_⟩
      rcases e10 with e | ⟨kb, e, e'⟩
      · exact .inl e
      · exact .inr ⟨kb, e, hx _ _ e'⟩
    | never => exact k2
    | nil => exact k2
    | cons p ps => exact k2

theorem Inv.grow {S : Wk} {G : Gh} {w : World} (h : Inv S G w) {b : Nat} {t : Ty} (hn : G b = none) (h8 : 8 ≤ b) (hi : Is S G w b t) : Inv S (G.put b t) w := by
  have hx : ∀ k x, G k = some x → G.put b t k = some x := fun k x hk => Gh.put_of hn hk
  intro k x hk
  by_cases e : k = b
  · subst e
    rw [Gh.put_same] at hk
    cases hk
    refine ⟨h8, ?_⟩
    have := hi.more hx
    cases t <;> exact this
  · rw [Gh.put_other _ _ e] at hk
    refine ⟨h.ge hk, ?_⟩
    have := (h.is hk).more hx
    cases x <;> exact this

theorem RowOk.ext {S : Wk} {r : Nat} {w w' : World} {G G' : Gh} (hx : Ext S r w G w' G') {q : MN.Q} {vs : List Value} (h : RowOk G vs q) : RowOk G' vs q := h.more hx.more

theorem Ext.below {S : Wk} {r : Nat} {G : Gh} {w w' : World} (h : Inv S G w) (h8 : 8 ≤ w.heap.size) (hb : Below w.heap.size w w') : Ext S r w G w' G :=
  ⟨hb.mono h8, fun _ _ h => h, fun _ _ h => h, fun b hl _ => hb.block b hl, fun b _ hg _ => hb.block b (h.lt hg), h.below hb⟩

/-- What a walk hands back. -/
def Out (S : Wk) (r : Nat) (G : Gh) (w : World) (q : Nat) (e : Ending) (w' : World) : Prop := ∃ v G', e = .returned v ∧ Ext S r w G w' G' ∧ Pl w'.heap.size w' v q

theorem Out.of_say {S : Wk} {r : Nat} {G : Gh} {w w' : World} {q : Nat} {e : Ending} (h : PlSay w q e w') (hI : Inv S G w) (h8 : 8 ≤ w.heap.size) : Out S r G w q e w' := by
  obtain ⟨⟨v, rfl, hv⟩, hb⟩ := h
  exact ⟨v, G, rfl, Ext.below hI h8 hb, hv⟩

theorem Out.after {S : Wk} {r : Nat} {G H : Gh} {w W w' : World} {q : Nat} {e : Ending} (hx : Ext S r w G W H) (h : Out S r H W q e w') : Out S r G w q e w' := by
  obtain ⟨v, G', rfl, h1, h2⟩ := h
  exact ⟨v, G', rfl, hx.trans h1, h2⟩

theorem Out.mono {S : Wk} {r r' : Nat} {G : Gh} {w w' : World} {q : Nat} {e : Ending} (h : Out S r G w q e w') (hr : r ≤ r') : Out S r' G w q e w' := by
  obtain ⟨v, G', rfl, h1, h2⟩ := h
  exact ⟨v, G', rfl, h1.mono hr, h2⟩

theorem tz_ext {S : Wk} {r : Nat} {w w' : World} {G G' : Gh} (h : TZ64 w) (hx : Ext S r w G w' G') : TZ64 w' := h.below hx.low (by omega)

/-- A block that is no path's, no word and no row of pointers may turn. -/
theorem Ext.row {S : Wk} {r : Nat} {w W W' : World} {G H : Gh} {row : Option Nat} (hx : Ext S r w G W H) (h8 : 8 ≤ w.heap.size) (hg : W.grownBy W' row)
    (hk : ∀ k, row = some k → w.heap.size ≤ k ∧ H k = none ∧ (∀ q : Nat, W.cell? ⟨k, 0, Option.none⟩ ≠ some (.int .u64 q)) ∧ ∀ arr : Array Value, W.heap[k]? ≠ some (.cells arr 157 (0, 0))) : Ext S r w G W' H := by
  have hsz := hx.low.size
  have hne : ∀ b, b < W.heap.size → (∀ k, row = some k → b ≠ k) → W'.heap[b]? = W.heap[b]? := fun b hb h => hg.block b hb (fun e => h b e.symm rfl)
  refine ⟨⟨hg.os.trans hx.low.os, hg.tape.trans hx.low.tape, hg.output.trans hx.low.output, Nat.le_trans hsz hg.size, fun b hb => ?_⟩, hx.old, hx.more, fun b hb hn => ?_, fun b t hb hr => ?_, hx.inv.turn2 hg.size (fun b q hc => ?_) (fun b arr ha => ?_) (fun b t hb => .inl ?_)⟩
  · rw [hne b (by omega) (fun k e => by have := (hk k e).1; omega)]
    exact hx.low.block b hb
  · rw [hne b (by omega) (fun k e => by have := (hk k e).1; omega)]
    exact hx.kept b hb hn
  · have hm := hx.more b t hb
    rw [hne b (hx.inv.lt hm) (fun k e => by rintro rfl; have := (hk _ e).2.1; rw [hm] at this; cases this)]
    exact hx.high b t hb hr
  · exact hne b (cell_lt hc) (fun k e => by rintro rfl; exact (hk _ e).2.2.1 q hc)
  · exact hne b (lt_of_block ha) (fun k e => by rintro rfl; exact (hk _ e).2.2.2 arr ha)
  · exact hne b (hx.inv.lt hb) (fun k e => by rintro rfl; have := (hk _ e).2.1; rw [hb] at this; cases this)

theorem Pl.row {w w' : World} {row : Option Nat} {v : Value} {q : Nat} (h : Pl w.heap.size w v q) (hg : w.grownBy w' row) (hk : ∀ k, row = some k → ∀ q : Nat, w.cell? ⟨k, 0, Option.none⟩ ≠ some (.int .u64 q)) : Pl w'.heap.size w' v q := by
  obtain ⟨b, rfl, hb, hc, hq⟩ := h
  exact ⟨b, rfl, Nat.lt_of_lt_of_le hb hg.size, (World.cell?_of_block (a := ⟨b, 0, Option.none⟩) (hg.block b hb (fun e => hk b e.symm q hc))).trans hc, hq⟩

/-- The contract of from at a path. -/
def FromC (S : Wk) (q : MN.Q) : Prop := ∀ (G : Gh) (w : World) (wb b : Nat) (sv : Value) (s : Nat), Inv S G w → WalkAt S w wb → TZ64 w → G b = some (.path q) → Pl w.heap.size w sv s → s < 2 ^ S.n →
  Calls Tryz.prog 81 #[.pointer (some ⟨wb, 0, Option.none⟩), .pointer (some ⟨b, 0, Option.none⟩), sv] w (Out S (qs q + 1) G w ((S.ev q).1 s))

/-- .. at each path of a row. -/
def Each (F : MN.Q → Prop) : MN.Q → Prop
  | .cons p ps => F p ∧ Each F ps
  | _ => True

/-- It stays among the places that there are. -/
def LowN (S : Wk) (q : MN.Q) : Prop := ∀ a, a < 2 ^ S.n → (S.ev q).1 a < 2 ^ S.n

theorem low_row (S : Wk) : ∀ {q : MN.Q}, Each (LowN S) q → ∀ a, a < 2 ^ S.n → (S.ev q).2.1 a < 2 ^ S.n := by
  intro q
  induction q with
  | cons p ps _ ih => exact fun h a ha => ih h.2 _ (h.1 a ha)
  | _ => exact fun _ a ha => ha

end Go.Proofs.YtjbdlihlcoldlaaGreatDoor.M

namespace Go.Proofs.YtjbdlihlcoldlaaGreatDoor.M
open Go.RowKit Go.Shelf

theorem row_head {G : Gh} {u : Value} {us : List Value} {row : MN.Q} (h : RowOk G (u :: us) row) : ∃ p ps pb, row = .cons p ps ∧ u = .pointer (some ⟨pb, 0, none⟩) ∧ G pb = some (.path p) ∧ RowOk G us ps := by
  cases row with
  | cons p ps =>
    obtain ⟨b, vs, e, h1, h2⟩ := h
    cases e
    exact ⟨p, ps, b, rfl, rfl, h1, h2⟩
  | nil => cases h
  | _ => exact h.elim

theorem row_nil {G : Gh} {row : MN.Q} (h : RowOk G [] row) : row = .nil := by
  cases row with
  | cons p ps => obtain ⟨b, vs, e, _⟩ := h; cases e
  | nil => rfl
  | _ => exact h.elim

theorem parts_cell {S : Wk} {r : Nat} {w W : World} {G H : Gh} {vs : List Value} {ab : Nat} {arr : Array Value} (hI : Inv S G w) (hx : Ext S r w G W H) (hab : w.heap[ab]? = some (.cells arr 157 (0, 0))) (harr : ∀ (k : Nat) (u : Value), vs[k]? = some u → arr[k]? = some u) {k : Nat} {u : Value} (hu : vs[k]? = some u) :
    W.cell? ⟨ab, k, none⟩ = some u := by
  have h1 := (hx.kept ab (lt_of_block hab) (hI.tag hab (by decide) (by decide))).trans hab
  have h2 := harr k u hu
  simp [World.cell?, h1, h2]

set_option maxHeartbeats 4000000 in
set_option maxRecDepth 100000 in
theorem through_any (S : Wk) (row : MN.Q) (hE : Each (FromC S) row) (hLw : Each (LowN S) row) (G : Gh) (w : World) (wb : Nat) (pv : Value) (vs : List Value) (sv : Value) (s : Nat) (hI : Inv S G w) (hW : WalkAt S w wb) (hT : TZ64 w)
    (hp : PartsAt w pv vs) (hr : RowOk G vs row) (hs : Pl w.heap.size w sv s) (hsn : s < 2 ^ S.n) :
    Calls Tryz.prog 134 #[.pointer (some ⟨wb, 0, none⟩), pv, sv] w (Out S (qs row + 1) G w ((S.ev row).2.1 s)) := by
  have HI : Hid (Inv S G w ∧ WalkAt S w wb ∧ TZ64 w) := ⟨hI, hW, hT⟩
  obtain ⟨ao, cap, rfl, h1, h2, h3⟩ := hp
  obtain ⟨n, hn⟩ : ∃ n, n = vs.length := ⟨_, rfl⟩
  rw [← hn] at h1 ⊢
  have HN : Hid (n = vs.length) := hn
  have H3 : Hid (vs ≠ [] → ∃ (b : Nat) (arr : Array Value), ao = some ⟨b, 0, none⟩ ∧ w.heap[b]? = some (.cells arr 157 (0, 0)) ∧ ∀ (k : Nat) (u : Value), vs[k]? = some u → arr[k]? = some u) := h3
  have HS : Hid (Pl w.heap.size w sv s ∧ RowOk G vs row ∧ Each (FromC S) row ∧ Each (LowN S) row ∧ s < 2 ^ S.n) := ⟨hs, hr, hE, hLw, hsn⟩
  have hcm : cap ≤ 9223372036854775807 := by unfold maxLen at h2; omega
  obtain ⟨sb, rfl, -⟩ := hs
  clear hn h3 hI hW hT hr hE h2 hLw hsn
  go_enter Tryz.func134, Tryz.ntmps134
  go_wp2_with fail
  go_loopw [11, 2] (fun i v wr => ∃ (k : Nat) (H : Gh) (rest : MN.Q) (q : Nat), k ≤ n ∧ i = .int .i64 k ∧ Ext S (qs row + 1) w G wr H ∧ Pl wr.heap.size wr v q ∧ RowOk H (vs.drop k) rest ∧ Each (FromC S) rest ∧ (S.ev row).2.1 s = (S.ev rest).2.1 q ∧ qs rest ≤ qs row ∧ Each (LowN S) rest ∧ q < 2 ^ S.n) (fun i _ _ => n - (intOf i).toNat)
  case atStart => exact ⟨0, G, row, s, Nat.zero_le _, rfl, Ext.refl HI.out.1, HS.out.1, HS.out.2.1, HS.out.2.2.1, rfl, Nat.le_refl _, HS.out.2.2.2.1, HS.out.2.2.2.2⟩
  case round =>
    obtain ⟨k, H, rest, q, hk, rfl, hx, hq, hrow, hEr, he, hqs, hLr, hqn⟩ := hrel
    by_cases hlt : k < n
    · have hkv : k < vs.length := by have := HN.out; omega
      rw [List.drop_eq_getElem_cons hkv] at hrow
      obtain ⟨p, ps, pb, rfl, hu, hg, hrow2⟩ := row_head hrow
      obtain ⟨ab, arr, rfl, hab, harr⟩ := H3.out (fun e => by rw [e] at hkv; simp at hkv)
      have hcell := parts_cell HI.out.1 hx hab harr (k := k) (u := .pointer (some ⟨pb, 0, none⟩)) (by rw [List.getElem?_eq_getElem hkv, hu])
      have hcell0 : wr.cell? ⟨ab, 0 + k, none⟩ = some (.pointer (some ⟨pb, 0, none⟩)) := by rw [Nat.zero_add]; exact hcell
      have C := hEr.1 H wr wb pb _ q hx.inv (HI.out.2.1.ext HI.out.1 hx) (tz_ext HI.out.2.2 hx) hg hq hqn
      have hki : (k : Int) < n := by omega
      have HX : Hid (Ext S (qs row + 1) w G wr H ∧ RowOk H (vs.drop (k + 1)) ps ∧ Each (FromC S) ps ∧ (S.ev row).2.1 s = (S.ev (.cons p ps)).2.1 q ∧ qs (.cons p ps) ≤ qs row) := ⟨hx, hrow2, hEr.2, he, hqs⟩
      have HLr : Hid (Each (LowN S) ps ∧ (S.ev p).1 q < 2 ^ S.n) := ⟨hLr.2, hLr.1 q hqn⟩
      obtain ⟨vb, rfl, -⟩ := hq
      clear hx hrow hrow2 hEr he hqs hab harr hu hg hLr hqn
      go_wp2_with fail
      refine C.mono ?_
      rintro e w1 ⟨u, H1, rfl, hx1, hu⟩
      have HU : Hid (Pl w1.heap.size w1 u ((S.ev p).1 q)) := hu
      have hle : qs p + 1 ≤ qs row + 1 ∧ qs ps ≤ qs row := by
        have := HX.out.2.2.2.2
        have e : qs (.cons p ps) = qs p + qs ps + 1 := rfl
        omega
      have HX1 : Hid (Ext S (qs row + 1) w G w1 H1 ∧ RowOk H1 (vs.drop (k + 1)) ps) := ⟨HX.out.1.trans (hx1.mono hle.1), HX.out.2.1.ext hx1⟩
      obtain ⟨ub, rfl, -⟩ := hu
      clear C hx1 hcell hcell0
      go_wp2_with fail
      case roundEnd => exact ⟨⟨k + 1, H1, ps, _, by omega, by go_num, HX1.out.1, HU.out, HX1.out.2, HX.out.2.2.1, HX.out.2.2.2.1, hle.2, HLr.out.1, HLr.out.2⟩, by simp [intOf]; omega⟩
    · obtain rfl : k = n := by omega
      have hd : vs.drop k = [] := by rw [HN.out]; exact List.drop_length
      rw [hd] at hrow
      obtain rfl := row_nil hrow
      have HR : Hid (Out S (qs row + 1) G w ((S.ev row).2.1 s) (.returned _) wr) := ⟨_, H, rfl, hx, by rw [he]; exact hq⟩
      obtain ⟨vb, rfl, -⟩ := hq
      clear hx hrow hEr he hqs hd hLr hqn
      go_wp2_with fail
      go_ret
      exact HR.out

end Go.Proofs.YtjbdlihlcoldlaaGreatDoor.M

namespace MN

theorem times_add (G : Nat → Nat) : ∀ m n s, times G (m + n) s = times G n (times G m s) := by
  intro m
  induction m with
  | zero => intro n s; rw [Nat.zero_add]; rfl
  | succ m ih => intro n s; rw [Nat.succ_add]; exact ih n (G s)

theorem less_disjoint {a b : Nat} (h : less a b ≠ 0) : b ||| less a b ≠ b := by
  intro e
  apply h
  refine Nat.eq_of_testBit_eq fun i => ?_
  have := congrArg (fun x => x.testBit i) e
  simp only [Nat.testBit_or] at this
  rw [less_bit] at this ⊢
  rw [Nat.zero_testBit]
  cases ha : a.testBit i <;> cases hb : b.testBit i <;> simp_all

/-- How far the walk's second loop has come. -/
def Far (G : Nat → Nat) (t m qa qf : Nat) : Prop := qa = upto G m t ∧ qa ||| G qa = qa ||| G qf ∧ (qf ≠ 0 → m ≤ count 64 qa) ∧ qa < 2 ^ 64 ∧ qf < 2 ^ 64

theorem far_start {G : Nat → Nat} {t : Nat} (ht : t < 2 ^ 64) : Far G t 0 t t := ⟨rfl, rfl, fun _ => Nat.zero_le _, ht, ht⟩

theorem less_low {a b : Nat} (ha : a < 2 ^ 64) : less a b < 2 ^ 64 := by
  unfold less
  exact Nat.xor_lt_two_pow ha (and_low ha)

theorem far_step {G : Nat → Nat} (hG : Add G) (hL : Low G) {t m qa qf : Nat} (h : Far G t m qa qf) (hf : qf ≠ 0) : Far G t (m + 1) (qa ||| less (G qf) qa) (less (G qf) qa) := by
  obtain ⟨h1, h2, h3, h4, h5⟩ := h
  obtain ⟨k1, k2⟩ := fresh_step hG h1 h2
  have hl := less_low (b := qa) (hL _ h5)
  refine ⟨k1, k2, fun hne => ?_, or_low h4 hl, hl⟩
  have := count_lt h4 (or_low h4 hl) (by rw [← or_assoc, or_self]) (less_disjoint hne).symm
  have := h3 hf
  omega

theorem far_le {G : Nat → Nat} {t m qa qf : Nat} (h : Far G t m qa qf) (hf : qf ≠ 0) : m ≤ 64 := Nat.le_trans (h.2.2.1 hf) (count_le 64 qa)

theorem far_end {G : Nat → Nat} (hG : Add G) (hL : Low G) {t m qa qf l : Nat} {h : Int} (hF : Far G t m qa qf) (ht : t < 2 ^ 64) (hm : 0 ≤ h → m ≤ (h - l).toNat) (he : qf = 0 ∨ (0 ≤ h ∧ h ≤ (l : Int) + m)) : qa = upto G (more l h) t := by
  obtain ⟨h1, h2, h3, h4, h5⟩ := hF
  rcases he with rfl | ⟨h6, h7⟩
  · have hs := fresh_none hG h2
    rw [h1] at hs
    have hst := upto_stop hG hs
    unfold more
    by_cases h0 : h < 0
    · rw [if_pos h0, h1]
      rcases Nat.le_total m 64 with hle | hle
      · exact (hst 64 hle).symm
      · exact upto_all hG hL ht hle
    · rw [if_neg h0, h1]
      exact (hst _ (hm (by omega))).symm
  · unfold more
    rw [if_neg (by omega), h1]
    have := hm h6
    congr 1
    omega

end MN
namespace Go.Proofs.YtjbdlihlcoldlaaGreatDoor.M
open Go.RowKit Go.Shelf

set_option maxHeartbeats 16000000 in
set_option maxRecDepth 100000 in
theorem repeat_any (S : Wk) (ps : MN.Q) (l : Nat) (h : Int) (hE : Each (FromC S) ps) (hLw : Each (LowN S) ps) (G : Gh) (w : World) (wb b : Nat) (sv : Value) (s : Nat) (hI : Inv S G w) (hW : WalkAt S w wb) (hT : TZ64 w)
    (hg : G b = some (.path (.many ps l h))) (hs : Pl w.heap.size w sv s) (hsn : s < 2 ^ S.n) :
    Calls Tryz.prog 190 #[.pointer (some ⟨wb, 0, none⟩), .pointer (some ⟨b, 0, none⟩), sv] w (Out S (qs ps + 1) G w (MN.rep (S.ev ps).2.1 l h s)) := by
  have hA : MN.Add (S.ev ps).2.1 := (MN.ev_add S.ends S.e ps).2.1
  have hL : MN.Low (S.ev ps).2.1 := (MN.ev_low S.ends S.e ps).2.1
  obtain ⟨code, uv, pv, lo, hi, asked, kv, hnode, -, rfl, rfl, hl12, hh1, hh12, -, ⟨vs, hparts, hrow⟩, -⟩ := hI.is hg
  have HN : Hid (∀ W H, Ext S (qs ps + 1) w G W H → W.cell? ⟨b, 2, none⟩ = some pv ∧ W.cell? ⟨b, 3, none⟩ = some (.int .i64 (l : Nat)) ∧ W.cell? ⟨b, 4, none⟩ = some (.int .i64 hi)) := by
    intro W H hx
    have hb := (hx.high b _ hg (Nat.le_refl _)).trans hnode
    exact ⟨cell_of_row W b 2 _ _ _ hb, cell_of_row W b 3 _ _ _ hb, cell_of_row W b 4 _ _ _ hb⟩
  have HC : Hid (∀ W H v q, Ext S (qs ps + 1) w G W H → Pl W.heap.size W v q → q < 2 ^ S.n → Calls Tryz.prog 134 #[.pointer (some ⟨wb, 0, none⟩), pv, v] W (Out S (qs ps + 1) H W ((S.ev ps).2.1 q))) := by
    intro W H v q hx hv hqn
    exact through_any S ps hE hLw H W wb pv vs v q hx.inv (hW.ext hI hx) (tz_ext hT hx) (hparts.ext hI hx) (hrow.ext hx) hv hqn
  have HE : Hid (Ext S (qs ps + 1) w G w G) := Ext.refl hI
  have hLowR := low_row S hLw
  have HS : Hid (Pl w.heap.size w sv s) := hs
  have h8 := hW.size
  obtain ⟨pao, pcap, hpv, -⟩ := hparts
  obtain ⟨pn, hpn⟩ : ∃ n, n = vs.length := ⟨_, rfl⟩
  rw [← hpn] at hpv
  subst hpv
  have hsl : s < 2 ^ 64 := by obtain ⟨_, _, _, _, h⟩ := hs; exact h
  obtain ⟨sb, rfl, -⟩ := hs
  unfold MN.rep
  generalize (S.ev ps).2.1 = F at hA hL HC hLowR ⊢
  have HLR : Hid ((∀ a, a < 2 ^ S.n → F a < 2 ^ S.n) ∧ s < 2 ^ S.n) := ⟨hLowR, hsn⟩
  obtain ⟨c2, c3, c4⟩ := HN.out w G HE.out
  generalize qs ps + 1 = r at *
  obtain ⟨t, ht⟩ : ∃ t, t = MN.times F l s := ⟨_, rfl⟩
  rw [← ht]
  have HTL : Hid (t < 2 ^ 64) := by show t < 2 ^ 64; rw [ht]; exact MN.low_times hL l s hsl
  have HFF : Hid (MN.Add F ∧ MN.Low F) := ⟨hA, hL⟩
  have HT : Hid (t = MN.times F l s) := ht
  clear hI hW hT hE hg hnode hrow hpn hA hL ht hsl hLw hsn hLowR
  go_enter Tryz.func190, Tryz.ntmps190
  go_wp2_with fail
  go_loopw [15, 2] (fun i v wr => ∃ (k : Nat) (H : Gh) (q : Nat), k ≤ l ∧ i = .int .i64 k ∧ Ext S r w G wr H ∧ Pl wr.heap.size wr v q ∧ q = MN.times F k s ∧ q < 2 ^ S.n) (fun i _ _ => l - (intOf i).toNat)
  case atStart => exact ⟨0, G, s, Nat.zero_le _, rfl, HE.out, HS.out, rfl, HLR.out.2⟩
  obtain ⟨k, H, q, hk, rfl, hx, hq, hqt, hqn⟩ := hrel
  obtain ⟨d2, d3, d4⟩ := HN.out _ H hx
  by_cases hlt : k < l
  case' neg =>
    obtain rfl : l = k := by omega
    rw [← HT.out] at hqt
    subst hqt
    have HX : Hid (Ext S r w G _ H) := hx
    have HV : Hid (Pl _ _ _ q) := hq
    obtain ⟨vb, rfl, -⟩ := hq
    clear hx
  case' pos =>
    have C := HC.out _ H _ q hx hq hqn
    have HX0 : Hid (Ext S r w G _ H) := hx
    have HQ0 : Hid (Pl _ _ _ q) := hq
    have hki : (k : Int) < l := by omega
    obtain ⟨vb, rfl, -⟩ := hq
    clear hx
    go_wp2_with fail
    refine C.mono ?_
    rintro e w1 ⟨u, H1, rfl, hx1, hu⟩
    have hqq := HQ0.out.ext HX0.out.inv hx1
    have D := hu.equal hqq
    have HU1 : Hid (Pl w1.heap.size w1 u (F q)) := hu
    have HX1 : Hid (Ext S r w G w1 H1) := HX0.out.trans hx1
    have HQ1 : Hid (Pl w1.heap.size w1 _ q) := hqq
    obtain ⟨ub, rfl, -⟩ := hu
    clear C hx1 hqq d2 d3 d4
    go_wp2_with fail
    refine D.mono ?_
    rintro e w2 ⟨rfl, hb2⟩
    have hx2 := HX1.out.trans (Ext.below HX1.out.inv (Nat.le_trans h8 HX1.out.low.size) hb2)
    have HX : Hid (Ext S r w G w2 H1) := hx2
    have HU : Hid (Pl w2.heap.size w2 _ (F q)) := HU1.out.below hb2 _ hb2.size
    have HV : Hid (Pl w2.heap.size w2 _ q) := HQ1.out.below hb2 _ hb2.size
    obtain ⟨d2, d3, d4⟩ := HN.out _ H1 hx2
    clear D hb2 hx2
    by_cases hf : F q = q
    case' neg =>
      simp only [hf, decide_false]
      go_wp2_with fail
      case roundEnd => exact ⟨⟨k + 1, H1, F q, by omega, by go_num, HX.out, HU.out, by rw [MN.times_out, ← hqt], HLR.out.1 q hqn⟩, by simp [intOf]; omega⟩
    have hqe : q = t := by
      have h1 := MN.times_add F k (l - k) s
      rw [← hqt, show k + (l - k) = l by omega, MN.times_fix hf] at h1
      rw [HT.out, h1]
    simp only [hf, decide_true]
    subst hqe
  all_goals
    obtain ⟨c2, c3, c4⟩ := HN.out _ _ HX.out
    go_wp2_with fail
    go_loopw [8, 9, 10] (fun a f i wr => ∃ (m nn : Nat) (H : Gh) (qa qf : Nat), i = .int .i64 nn ∧ nn = l + m ∧ m ≤ 65 ∧ Ext S r w G wr H ∧ Pl wr.heap.size wr a qa ∧ Pl wr.heap.size wr f qf ∧ MN.Far F q m qa qf ∧ (0 ≤ hi → m ≤ (hi - l).toNat) ∧ qa < 2 ^ S.n ∧ qf < 2 ^ S.n) (fun _ _ i _ => l + 66 - (intOf i).toNat)
    case atStart => exact ⟨0, l, _, q, q, rfl, rfl, by omega, HX.out, HV.out, HV.out, MN.far_start HTL.out, fun _ => Nat.zero_le _, hqn, hqn⟩
    case round =>
      obtain ⟨m, nn, H2, qa, qf, rfl, hnn, hm, hx, ha, hf, hF, hmh, hqan, hqfn⟩ := hrel
      obtain ⟨e2, e3, e4⟩ := HN.out _ _ hx
      have HX2 : Hid (Ext S r w G _ H2) := hx
      have HA2 : Hid (Pl _ _ _ qa) := ha
      have HF2 : Hid (Pl _ _ _ qf) := hf
      have HFar : Hid (MN.Far F q m qa qf) := hF
      have HMH : Hid (0 ≤ hi → m ≤ (hi - l).toNat) := hmh
      have HNN : Hid (nn = l + m) := hnn
      have N := hf.none
      have C := HC.out _ H2 _ qf hx hf hqfn
      have HQN : Hid (qa ||| MN.less (F qf) qa < 2 ^ S.n ∧ MN.less (F qf) qa < 2 ^ S.n) := by
        have h1 : MN.less (F qf) qa < 2 ^ S.n := by unfold MN.less; exact Nat.xor_lt_two_pow (HLR.out.1 qf hqfn) (Nat.lt_of_le_of_lt Nat.and_le_left (HLR.out.1 qf hqfn))
        exact ⟨Nat.or_lt_two_pow hqan h1, h1⟩
      obtain ⟨ab, rfl, -⟩ := ha
      obtain ⟨fb, rfl, -⟩ := hf
      have hnb : (nn : Int) ≤ 77 := by omega
      have hcond : (hi < 0 ∨ (0 ≤ hi ∧ (nn : Int) < hi)) ∨ (0 ≤ hi ∧ hi ≤ (nn : Int)) := by omega
      clear hx hF hmh hnn hqan hqfn
      rcases hcond with hcond | ⟨h5, h6⟩
      · by_cases hz : qf = 0
        · have HR : Hid (qa = MN.upto F (MN.more l hi) q) := MN.far_end HFF.out.1 HFF.out.2 HFar.out HTL.out HMH.out (.inl hz)
          have hdz : decide (qf = 0) = true := by simp [hz]
          rw [hdz] at N
          clear C
          rcases hcond with hc | ⟨h0, hc⟩
          all_goals
            go_wp2_with fail
            refine N.mono ?_
            rintro e w1 ⟨rfl, rfl⟩
            go_wp2_with fail
            go_ret
            exact ⟨_, H2, rfl, HX2.out, by rw [← HR.out]; exact HA2.out⟩
        · have hdz : decide (qf = 0) = false := by simp [hz]
          rw [hdz] at N
          have HM1 : Hid (m + 1 ≤ 65 ∧ (0 ≤ hi → m + 1 ≤ (hi - l).toNat)) := by
            have := MN.far_le HFar.out hz
            have := HNN.out
            refine ⟨by omega, fun h0 => ?_⟩
            rcases hcond with hc | ⟨_, hc⟩ <;> omega
          rcases hcond with hc | ⟨h0, hc⟩
          all_goals
            go_wp2_with fail
            refine N.mono ?_
            rintro e w1 ⟨rfl, rfl⟩
            go_wp2_with fail
            refine C.mono ?_
            rintro e w3 ⟨u, H3, rfl, hx3, hu⟩
            have HX3 : Hid (Ext S r w G w3 H3) := HX2.out.trans hx3
            have hA3 := HA2.out.ext HX2.out.inv hx3
            have HA3 : Hid (Pl w3.heap.size w3 _ qa) := hA3
            have D := hu.less hA3
            obtain ⟨ub, rfl, -⟩ := hu
            clear C N hx3 hA3 e2 e3 e4
            go_wp2_with fail
            refine D.mono ?_
            rintro e w4 ⟨⟨u4, rfl, hu4⟩, hb4⟩
            have hA4 := HA3.out.below hb4 _ hb4.size
            have E := hA4.or hu4
            have HU4 : Hid (Pl w4.heap.size w4 u4 (MN.less (F qf) qa)) := hu4
            have HX4 : Hid (Ext S r w G w4 H3) := HX3.out.trans (Ext.below HX3.out.inv (Nat.le_trans h8 HX3.out.low.size) hb4)
            obtain ⟨ub4, rfl, -⟩ := hu4
            clear D hb4 hA4
            go_wp2_with fail
            refine E.mono ?_
            rintro e w5 ⟨⟨u5, rfl, hu5⟩, hb5⟩
            have HU5 : Hid (Pl w5.heap.size w5 u5 (qa ||| MN.less (F qf) qa)) := hu5
            have HU6 : Hid (Pl w5.heap.size w5 _ (MN.less (F qf) qa)) := HU4.out.below hb5 _ hb5.size
            have HX5 : Hid (Ext S r w G w5 H3) := HX4.out.trans (Ext.below HX4.out.inv (Nat.le_trans h8 HX4.out.low.size) hb5)
            obtain ⟨ub5, rfl, -⟩ := hu5
            clear E hb5
            go_wp2_with fail
            case roundEnd => exact ⟨⟨m + 1, nn + 1, H3, _, _, by go_num, by have := HNN.out; omega, HM1.out.1, HX5.out, HU5.out, HU6.out, MN.far_step HFF.out.1 HFF.out.2 HFar.out hz, HM1.out.2, HQN.out.1, HQN.out.2⟩, by have := HNN.out; have := HM1.out.1; simp [intOf]; omega⟩
      · have HR : Hid (qa = MN.upto F (MN.more l hi) q) := MN.far_end HFF.out.1 HFF.out.2 HFar.out HTL.out HMH.out (.inr ⟨h5, by have := HNN.out; omega⟩)
        clear C N
        go_wp2_with fail
        go_ret
        exact ⟨_, H2, rfl, HX2.out, by rw [← HR.out]; exact HA2.out⟩

end Go.Proofs.YtjbdlihlcoldlaaGreatDoor.M

namespace Go.Proofs.YtjbdlihlcoldlaaGreatDoor.M
open Go.RowKit Go.Shelf

/-- The contract of many. -/
def ManyC (S : Wk) (ps : MN.Q) (l : Nat) (h : Int) : Prop := ∀ (G : Gh) (w : World) (wb b : Nat) (sv : Value) (s : Nat), Inv S G w → WalkAt S w wb → TZ64 w → G b = some (.path (.many ps l h)) → Pl w.heap.size w sv s → s < 2 ^ S.n →
  Calls Tryz.prog 136 #[.pointer (some ⟨wb, 0, none⟩), .pointer (some ⟨b, 0, none⟩), sv] w (Out S (qs ps + 2) G w (MN.rep (S.ev ps).2.1 l h s))

set_option maxHeartbeats 1000000 in
set_option maxRecDepth 100000 in
theorem from_zero (S : Wk) (r : Nat) (G : Gh) (w : World) (wb b : Nat) (sv : Value) (hI : Inv S G w) (hs : Pl w.heap.size w sv 0) :
    Calls Tryz.prog 81 #[.pointer (some ⟨wb, 0, none⟩), .pointer (some ⟨b, 0, none⟩), sv] w (Out S r G w 0) := by
  have N := hs.none
  have HS : Hid (Pl w.heap.size w sv 0) := hs
  obtain ⟨sb, rfl, -⟩ := hs
  simp only [decide_true] at N
  go_enter Tryz.func81, Tryz.ntmps81
  go_wp2_with fail
  refine N.mono ?_
  rintro e w1 ⟨rfl, rfl⟩
  go_wp2_with fail
  go_ret
  exact ⟨_, G, rfl, Ext.refl hI, HS.out⟩

set_option maxHeartbeats 2000000 in
set_option maxRecDepth 100000 in
theorem from_over (S : Wk) (u : Nat) : FromC S (.over u) := by
  intro G w wb b sv s hI hW hT hg hs hsn
  by_cases hz : s = 0
  · subst hz
    have : (S.ev (.over u)).1 0 = 0 := (MN.ev_add S.ends S.e (.over u)).1.zero
    rw [this]
    exact from_zero S _ G w wb b sv hI hs
  · have N := hs.none
    rw [show decide (s = 0) = false by simp [hz]] at N
    obtain ⟨code, uv, pv, lo, hi, asked, kv, hnode, hcode, hu⟩ := hI.is hg
    obtain ⟨_, _, _, wu, wm, wa, we, hwb, _⟩ := hW
    have c0 : w.cell? ⟨b, 0, none⟩ = some (.int .i64 code) := cell_of_row w b 0 _ _ _ hnode
    have c1 : w.cell? ⟨b, 1, none⟩ = some uv := cell_of_row w b 1 _ _ _ hnode
    have d3 : w.cell? ⟨wb, 3, none⟩ = some (.bool S.ends) := cell_of_row w wb 3 _ _ _ hwb
    have C := over_any wb S.ends uv sv u s w d3 hu hs
    have e : (S.ev (.over u)).1 s = goOver S.ends u s := rfl
    rw [e]
    have h8 : 8 ≤ w.heap.size := by have := hI.ge hg; have := hI.lt hg; omega
    have HI : Hid (Inv S G w) := hI
    obtain ⟨ub, rfl, -⟩ := hu
    obtain ⟨sb, rfl, -⟩ := hs
    clear hnode hwb hg hI d3 e
    rcases hcode with rfl | rfl
    all_goals
      go_enter Tryz.func81, Tryz.ntmps81
      go_wp2_with fail
      refine N.mono ?_
      rintro e w1 ⟨rfl, rfl⟩
      go_wp2_with fail
      refine C.mono ?_
      rintro e w2 hs2
      have HO : Hid (Out S (qs (.over u) + 1) G _ _ e w2) := Out.of_say hs2 HI.out h8
      obtain ⟨⟨v, rfl, hv⟩, -⟩ := hs2
      obtain ⟨vb, rfl, -⟩ := hv
      clear C N
      go_wp2_with fail
      go_ret
      exact HO.out

set_option maxHeartbeats 2000000 in
set_option maxRecDepth 100000 in
theorem from_edge (S : Wk) : FromC S .edge := by
  intro G w wb b sv s hI hW hT hg hs hsn
  by_cases hz : s = 0
  · subst hz
    have : (S.ev .edge).1 0 = 0 := (MN.ev_add S.ends S.e .edge).1.zero
    rw [this]
    exact from_zero S _ G w wb b sv hI hs
  · have N := hs.none
    rw [show decide (s = 0) = false by simp [hz]] at N
    obtain ⟨code, uv, pv, lo, hi, asked, kv, hnode, rfl⟩ := hI.is hg
    obtain ⟨_, _, _, wu, wm, wa, we, hwb, hed⟩ := hW
    have c0 : w.cell? ⟨b, 0, none⟩ = some (.int .i64 3) := cell_of_row w b 0 _ _ _ hnode
    have d5 : w.cell? ⟨wb, 5, none⟩ = some we := cell_of_row w wb 5 _ _ _ hwb
    have C := hs.and hed
    have e : (S.ev .edge).1 s = s &&& S.e := rfl
    rw [e]
    have h8 : 8 ≤ w.heap.size := by have := hI.ge hg; have := hI.lt hg; omega
    have HI : Hid (Inv S G w) := hI
    obtain ⟨ub, rfl, -⟩ := hed
    obtain ⟨sb, rfl, -⟩ := hs
    clear hnode hwb hg hI e
    go_enter Tryz.func81, Tryz.ntmps81
    go_wp2_with fail
    refine N.mono ?_
    rintro e w1 ⟨rfl, rfl⟩
    go_wp2_with fail
    refine C.mono ?_
    rintro e w2 hs2
    have HO : Hid (Out S (qs .edge + 1) G _ _ e w2) := Out.of_say hs2 HI.out h8
    obtain ⟨⟨v, rfl, hv⟩, -⟩ := hs2
    obtain ⟨vb, rfl, -⟩ := hv
    clear C N
    go_wp2_with fail
    go_ret
    exact HO.out

set_option maxHeartbeats 2000000 in
set_option maxRecDepth 100000 in
theorem from_cat (S : Wk) (ps : MN.Q) (hE : Each (FromC S) ps) (hLw : Each (LowN S) ps) : FromC S (.cat ps) := by
  intro G w wb b sv s hI hW hT hg hs hsn
  by_cases hz : s = 0
  · subst hz
    have : (S.ev (.cat ps)).1 0 = 0 := (MN.ev_add S.ends S.e (.cat ps)).1.zero
    rw [this]
    exact from_zero S _ G w wb b sv hI hs
  · have N := hs.none
    rw [show decide (s = 0) = false by simp [hz]] at N
    obtain ⟨code, uv, pv, lo, hi, asked, kv, hnode, rfl, vs, hparts, hrow⟩ := hI.is hg
    have c0 : w.cell? ⟨b, 0, none⟩ = some (.int .i64 4) := cell_of_row w b 0 _ _ _ hnode
    have c2 : w.cell? ⟨b, 2, none⟩ = some pv := cell_of_row w b 2 _ _ _ hnode
    have C := through_any S ps hE hLw G w wb pv vs sv s hI hW hT hparts hrow hs hsn
    have e : (S.ev (.cat ps)).1 s = (S.ev ps).2.1 s := rfl
    rw [e]
    obtain ⟨pao, pcap, rfl, -⟩ := hparts
    obtain ⟨pn, hpn⟩ : ∃ n, n = vs.length := ⟨_, rfl⟩
    rw [← hpn] at C c2
    obtain ⟨sb, rfl, -⟩ := hs
    clear hnode hg hI hW hT hrow hpn e
    go_enter Tryz.func81, Tryz.ntmps81
    go_wp2_with fail
    refine N.mono ?_
    rintro e w1 ⟨rfl, rfl⟩
    go_wp2_with fail
    refine C.mono ?_
    rintro e w2 ⟨v, G', rfl, hx, hv⟩
    have HO : Hid (Out S (qs (.cat ps) + 1) G _ _ (.returned v) w2) := ⟨v, G', rfl, hx.mono (by show qs ps + 1 ≤ qs ps + 1 + 1; omega), hv⟩
    obtain ⟨vb, rfl, -⟩ := hv
    clear C N hx
    go_wp2_with fail
    go_ret
    exact HO.out

set_option maxHeartbeats 2000000 in
set_option maxRecDepth 100000 in
theorem from_many (S : Wk) (ps : MN.Q) (l : Nat) (h : Int) (hM : ManyC S ps l h) : FromC S (.many ps l h) := by
  intro G w wb b sv s hI hW hT hg hs hsn
  by_cases hz : s = 0
  · subst hz
    have : (S.ev (.many ps l h)).1 0 = 0 := (MN.ev_add S.ends S.e (.many ps l h)).1.zero
    rw [this]
    exact from_zero S _ G w wb b sv hI hs
  · have N := hs.none
    rw [show decide (s = 0) = false by simp [hz]] at N
    have C := hM G w wb b sv s hI hW hT hg hs hsn
    obtain ⟨code, uv, pv, lo, hi, asked, kv, hnode, rfl, -⟩ := hI.is hg
    have c0 : w.cell? ⟨b, 0, none⟩ = some (.int .i64 6) := cell_of_row w b 0 _ _ _ hnode
    have e : (S.ev (.many ps l h)).1 s = MN.rep (S.ev ps).2.1 l h s := rfl
    rw [e]
    generalize MN.rep (S.ev ps).2.1 l h s = q at C ⊢
    obtain ⟨sb, rfl, -⟩ := hs
    clear hnode hg hI hW hT e
    go_enter Tryz.func81, Tryz.ntmps81
    go_wp2_with fail
    refine N.mono ?_
    rintro e w1 ⟨rfl, rfl⟩
    go_wp2_with fail
    refine C.mono ?_
    rintro e w2 ⟨v, G', rfl, hx, hv⟩
    have HO : Hid (Out S (qs (.many ps l h) + 1) G _ _ (.returned v) w2) := ⟨v, G', rfl, hx.mono (by show qs ps + 2 ≤ qs ps + 1 + 1; omega), hv⟩
    obtain ⟨vb, rfl, -⟩ := hv
    clear C N hx
    go_wp2_with fail
    go_ret
    exact HO.out

set_option maxHeartbeats 4000000 in
set_option maxRecDepth 100000 in
theorem from_alt (S : Wk) (ps : MN.Q) (hE : Each (FromC S) ps) : FromC S (.alt ps) := by
  intro G w wb b sv s hI hW hT hg hs hsn
  by_cases hz : s = 0
  · subst hz
    have : (S.ev (.alt ps)).1 0 = 0 := (MN.ev_add S.ends S.e (.alt ps)).1.zero
    rw [this]
    exact from_zero S _ G w wb b sv hI hs
  · have N := hs.none
    rw [show decide (s = 0) = false by simp [hz]] at N
    obtain ⟨code, uv, pv, lo, hi, asked, kv, hnode, rfl, vs, hparts, hrow⟩ := hI.is hg
    have c0 : w.cell? ⟨b, 0, none⟩ = some (.int .i64 5) := cell_of_row w b 0 _ _ _ hnode
    have hnode2 := hnode
    have HNW : Hid (∀ W, Below w.heap.size w W → W.cell? ⟨b, 2, none⟩ = some pv) := fun W hb => cell_of_row W b 2 _ _ _ ((hb.block b (lt_of_block hnode2)).trans hnode2)
    have HI : Hid (Inv S G w ∧ WalkAt S w wb ∧ TZ64 w) := ⟨hI, hW, hT⟩
    have HSN : Hid (s < 2 ^ S.n) := hsn
    obtain ⟨h8w, hn1, hn2, wu, wm, wa, we, hwb, -⟩ := hW
    have d2 : w.cell? ⟨wb, 2, none⟩ = some (.int .i64 S.n) := cell_of_row w wb 2 _ _ _ hwb
    have W0 := nowhere_any S.n hn1 hn2 w
    have e : (S.ev (.alt ps)).1 s = (S.ev ps).2.2 s := rfl
    rw [e]
    have h8 : 8 ≤ w.heap.size := by have := hI.ge hg; have := hI.lt hg; omega
    have HS : Hid (Pl w.heap.size w sv s ∧ RowOk G vs ps ∧ Each (FromC S) ps) := ⟨hs, hrow, hE⟩
    obtain ⟨ao, cap, rfl, h1, h2, h3⟩ := hparts
    obtain ⟨n, hn⟩ : ∃ n, n = vs.length := ⟨_, rfl⟩
    rw [← hn] at h1 HNW
    have HN : Hid (n = vs.length) := hn
    have H3 : Hid (vs ≠ [] → ∃ (b : Nat) (arr : Array Value), ao = some ⟨b, 0, none⟩ ∧ w.heap[b]? = some (.cells arr 157 (0, 0)) ∧ ∀ (k : Nat) (u : Value), vs[k]? = some u → arr[k]? = some u) := h3
    have hcm : cap ≤ 9223372036854775807 := by unfold maxLen at h2; omega
    obtain ⟨sb, rfl, -⟩ := hs
    obtain ⟨N0, hN0⟩ : ∃ N0, N0 = S.n := ⟨_, rfl⟩
    rw [← hN0] at d2 W0
    clear hn h3 hI hT hrow hE h2 hg hnode hnode2 hwb e hN0
    go_enter Tryz.func81, Tryz.ntmps81
    go_wp2_with fail
    refine N.mono ?_
    rintro e w1 ⟨rfl, hww⟩
    subst hww
    go_wp2_with fail
    refine W0.mono ?_
    rintro e w2 ⟨rfl, hw2⟩
    have hb2 : Below w1.heap.size w1 w2 := by rw [hw2]; exact (Below.refl _ _).alloc (Nat.le_refl _) _
    have hx2 : Ext S (qs ps + 2) w1 G w2 G := Ext.below HI.out.1 h8 hb2
    have c2 := HNW.out w2 hb2
    have HX2 : Hid (Ext S (qs ps + 2) w1 G w2 G) := hx2
    have HP2 : Hid (Pl w2.heap.size w2 (.slice (some ⟨w1.heap.size, 0, none⟩) 1 1) 0) := ⟨w1.heap.size, rfl, by rw [hw2]; simp, by rw [hw2]; simp, by decide⟩
    have HS2 : Hid (Pl w2.heap.size w2 (.slice (some ⟨sb, 0, none⟩) 1 1) s) := HS.out.1.below hb2 _ hb2.size
    obtain ⟨g0, hg0⟩ : ∃ g, g = w1.heap.size := ⟨_, rfl⟩
    rw [← hg0] at HP2 ⊢
    clear hw2 hb2 hx2 W0 N hg0
    go_wp2_with fail
    go_loopw [56, 7] (fun i v wr => ∃ (k : Nat) (H : Gh) (rest : MN.Q) (q : Nat), k ≤ n ∧ i = .int .i64 k ∧ Ext S (qs ps + 2) w1 G wr H ∧ Pl wr.heap.size wr v q ∧ RowOk H (vs.drop k) rest ∧ Each (FromC S) rest ∧ (S.ev ps).2.2 s = q ||| (S.ev rest).2.2 s ∧ qs rest ≤ qs ps) (fun i _ _ => n - (intOf i).toNat)
    case atStart => exact ⟨0, G, ps, 0, Nat.zero_le _, rfl, HX2.out, HP2.out, HS.out.2.1, HS.out.2.2, by rw [Nat.zero_or], Nat.le_refl _⟩
    case round =>
      obtain ⟨k, H, rest, q, hk, rfl, hx, hq, hrow, hEr, he, hqs⟩ := hrel
      by_cases hlt : k < n
      · have hkv : k < vs.length := by have := HN.out; omega
        rw [List.drop_eq_getElem_cons hkv] at hrow
        obtain ⟨p, qs', pb, rfl, hu, hg, hrow2⟩ := row_head hrow
        obtain ⟨ab, arr, rfl, hab, harr⟩ := H3.out (fun e => by rw [e] at hkv; simp at hkv)
        have hcell := parts_cell HI.out.1 hx hab harr (k := k) (u := .pointer (some ⟨pb, 0, none⟩)) (by rw [List.getElem?_eq_getElem hkv, hu])
        have hcell0 : wr.cell? ⟨ab, 0 + k, none⟩ = some (.pointer (some ⟨pb, 0, none⟩)) := by rw [Nat.zero_add]; exact hcell
        have hss := HS.out.1.ext HI.out.1 hx
        have C := hEr.1 H wr wb pb _ s hx.inv (HI.out.2.1.ext HI.out.1 hx) (tz_ext HI.out.2.2 hx) hg hss HSN.out
        have hki : (k : Int) < n := by omega
        have HX : Hid (Ext S (qs ps + 2) w1 G wr H ∧ RowOk H (vs.drop (k + 1)) qs' ∧ Each (FromC S) qs' ∧ (S.ev ps).2.2 s = q ||| (S.ev (.cons p qs')).2.2 s ∧ qs (.cons p qs') ≤ qs ps) := ⟨hx, hrow2, hEr.2, he, hqs⟩
        have HQ : Hid (Pl wr.heap.size wr _ q) := hq
        obtain ⟨vb, rfl, -⟩ := hq
        clear hx hrow hrow2 hEr he hqs hab harr hu hg hss
        go_wp2_with fail
        refine C.mono ?_
        rintro e w3 ⟨u, H1, rfl, hx1, hu⟩
        have hq3 := HQ.out.ext HX.out.1.inv hx1
        have D := hq3.or hu
        have hle : qs p + 1 ≤ qs ps + 2 ∧ qs qs' ≤ qs ps := by
          have := HX.out.2.2.2.2
          have e : qs (.cons p qs') = qs p + qs qs' + 1 := rfl
          omega
        have HX1 : Hid (Ext S (qs ps + 2) w1 G w3 H1 ∧ RowOk H1 (vs.drop (k + 1)) qs') := ⟨HX.out.1.trans (hx1.mono hle.1), HX.out.2.1.ext hx1⟩
        obtain ⟨ub, rfl, -⟩ := hu
        clear C hx1 hcell hcell0 hq3
        go_wp2_with fail
        refine D.mono ?_
        rintro e w4 ⟨⟨u4, rfl, hu4⟩, hb4⟩
        have HU : Hid (Pl w4.heap.size w4 u4 (q ||| (S.ev p).1 s)) := hu4
        have HX4 : Hid (Ext S (qs ps + 2) w1 G w4 H1) := HX1.out.1.trans (Ext.below HX1.out.1.inv (Nat.le_trans h8 HX1.out.1.low.size) hb4)
        obtain ⟨ub4, rfl, -⟩ := hu4
        clear D hb4
        go_wp2_with fail
        case roundEnd => exact ⟨⟨k + 1, H1, qs', _, by omega, by go_num, HX4.out, HU.out, HX1.out.2, HX.out.2.2.1, by rw [HX.out.2.2.2.1, MN.or_assoc]; rfl, hle.2⟩, by simp [intOf]; omega⟩
      · obtain rfl : n = k := by omega
        have hd : vs.drop n = [] := by rw [HN.out]; exact List.drop_length
        rw [hd] at hrow
        obtain rfl := row_nil hrow
        have HR : Hid (Out S (qs (.alt ps) + 1) G w1 ((S.ev ps).2.2 s) (.returned _) wr) := ⟨_, H, rfl, hx, by rw [he]; show Pl _ _ _ (q ||| 0); rw [Nat.or_zero]; exact hq⟩
        obtain ⟨vb, rfl, -⟩ := hq
        clear hx hrow hEr he hqs hd
        go_wp2_with fail
        go_ret
        exact HR.out

/-- A path all of whose ways stay among the places that there are. -/
def Fine (S : Wk) : MN.Q → Prop
  | .over u => LowN S (.over u)
  | .edge => LowN S .edge
  | .never => True
  | .cat ps => Fine S ps
  | .alt ps => Fine S ps
  | .many ps _ _ => Fine S ps
  | .nil => True
  | .cons p ps => Fine S p ∧ Fine S ps

theorem low_times (S : Wk) {F : Nat → Nat} (hF : ∀ a, a < 2 ^ S.n → F a < 2 ^ S.n) : ∀ n a, a < 2 ^ S.n → MN.times F n a < 2 ^ S.n := by
  intro n
  induction n with
  | zero => exact fun a h => h
  | succ n ih => exact fun a h => ih _ (hF a h)

theorem low_upto (S : Wk) {F : Nat → Nat} (hF : ∀ a, a < 2 ^ S.n → F a < 2 ^ S.n) : ∀ n a, a < 2 ^ S.n → MN.upto F n a < 2 ^ S.n := by
  intro n
  induction n with
  | zero => exact fun a h => h
  | succ n ih => exact fun a h => Nat.or_lt_two_pow h (hF _ (ih a h))

theorem fine_low (S : Wk) : ∀ q, Fine S q → LowN S q ∧ Each (LowN S) q ∧ (∀ a, a < 2 ^ S.n → (S.ev q).2.1 a < 2 ^ S.n) ∧ ∀ a, a < 2 ^ S.n → (S.ev q).2.2 a < 2 ^ S.n := by
  intro q
  induction q with
  | over u => exact fun h => ⟨h, trivial, fun a ha => ha, fun _ _ => Nat.two_pow_pos _⟩
  | edge => exact fun h => ⟨h, trivial, fun a ha => ha, fun _ _ => Nat.two_pow_pos _⟩
  | never => exact fun _ => ⟨fun _ _ => Nat.two_pow_pos _, trivial, fun a ha => ha, fun _ _ => Nat.two_pow_pos _⟩
  | cat ps ih => exact fun h => ⟨fun a ha => (ih h).2.2.1 a ha, trivial, fun a ha => ha, fun _ _ => Nat.two_pow_pos _⟩
  | alt ps ih => exact fun h => ⟨fun a ha => (ih h).2.2.2 a ha, trivial, fun a ha => ha, fun _ _ => Nat.two_pow_pos _⟩
  | many ps l hh ih => exact fun h => ⟨fun a ha => low_upto S (ih h).2.2.1 _ _ (low_times S (ih h).2.2.1 _ _ ha), trivial, fun a ha => ha, fun _ _ => Nat.two_pow_pos _⟩
  | nil => exact fun _ => ⟨fun _ _ => Nat.two_pow_pos _, trivial, fun a ha => ha, fun _ _ => Nat.two_pow_pos _⟩
  | cons p ps ih1 ih2 => exact fun h => ⟨fun _ _ => Nat.two_pow_pos _, ⟨(ih1 h.1).1, (ih2 h.2).2.1⟩, fun a ha => (ih2 h.2).2.2.1 _ ((ih1 h.1).1 a ha), fun a ha => Nat.or_lt_two_pow ((ih1 h.1).1 a ha) ((ih2 h.2).2.2.2 a ha)⟩

/-- from at every path. -/
theorem from_any (S : Wk) (hM : ∀ ps l h, Each (FromC S) ps → Each (LowN S) ps → ManyC S ps l h) : ∀ q, Fine S q → FromC S q ∧ Each (FromC S) q := by
  intro q
  induction q with
  | over u => exact fun _ => ⟨from_over S u, trivial⟩
  | edge => exact fun _ => ⟨from_edge S, trivial⟩
  | never => exact fun _ => ⟨fun G w wb b sv s hI hW hT hg hs hsn => by obtain ⟨_, _, _, _, _, _, _, _, h⟩ := hI.is hg; exact h.elim, trivial⟩
  | cat ps ih => exact fun hf => ⟨from_cat S ps (ih hf).2 (fine_low S ps hf).2.1, trivial⟩
  | alt ps ih => exact fun hf => ⟨from_alt S ps (ih hf).2, trivial⟩
  | many ps l h ih => exact fun hf => ⟨from_many S ps l h (hM ps l h (ih hf).2 (fine_low S ps hf).2.1), trivial⟩
  | nil => exact fun _ => ⟨fun G w wb b sv s hI hW hT hg hs hsn => by obtain ⟨_, _, _, _, _, _, _, _, h⟩ := hI.is hg; exact h.elim, trivial⟩
  | cons p ps ih1 ih2 => exact fun hf => ⟨fun G w wb b sv s hI hW hT hg hs hsn => by obtain ⟨_, _, _, _, _, _, _, _, h⟩ := hI.is hg; exact h.elim, (ih1 hf.1).1, (ih2 hf.2).2⟩

end Go.Proofs.YtjbdlihlcoldlaaGreatDoor.M

namespace Go.Proofs.RF
open Go Go.RowKit

theorem rowsIn_round {P : Program} {row : String} {args : Array Value} {w : World} {R : Value → World → Prop} {n l : Nat} (h : Rows P row args w R) : RowsIn (Fence.wide.inRound l) n P row args w R :=
  fun c cs _ => let ⟨v, w', r, s⟩ := h c cs; ⟨v, w', r, stepsIn_wide.2 s⟩

theorem oper_round {P : Program} {o : Oper} {a : Act} {w : World} {K : Act → World → Prop} {Q : Exit → Act → World → Prop} {n l : Nat} (hd : ∀ c, o.op ≠ .defer c) (h : o.wp P a w K Q) : o.wpIn (Fence.wide.inRound l) n P a w K Q := by
  unfold Oper.wp at h
  refine ⟨fun _ _ => trivial, ?_⟩
  rw [Oper.semAt_eq _ _ _ hd]
  generalize (execOp a.eval o).run P w = r at *
  cases r with
  | ok x w' =>
    cases x <;> simp only [Oper.upon] at h <;> simp only [Oper.uponIn] <;>
      first
        | exact h
        | exact ⟨fun e => (by cases e), CallsIn.inRound l (callsIn_wide.2 h)⟩
        | exact ⟨fun e => (by cases e), rowsIn_round h⟩
  | halt x w' => cases x <;> simp only [Oper.upon] at h <;> simp only [Oper.uponIn] <;> exact h

theorem any_round {P : Program} {ops : Array Oper} {Q : Exit → Act → World → Prop} {md : Region.Mode} {n l : Nat} (hd : ∀ (i : Nat) (o : Oper) c, ops[i]? = some o → o.op ≠ .defer c) (hno : ¬ LetsOut Q) :
    ∀ (fuel : Nat) (listed : Array Bool) (a : Act) (w : World), wpAny P md ops Q fuel listed a w → wpAnyIn (Fence.wide.inRound l) n P md ops Q fuel listed a w := by
  intro fuel
  induction fuel with
  | zero => intro listed a w h; exact h
  | succ fuel ih =>
    intro listed a w h
    refine ⟨h.1, fun i hi => ?_⟩
    have h2 := h.2 i hi
    unfold wpOp at h2
    unfold wpOpIn
    cases ho : ops[i]? with
    | none => simp only [ho] at h2 ⊢; exact ih _ _ _ h2
    | some o =>
      simp only [ho] at h2 ⊢
      split
      · rename_i hw
        simp only [hw, if_true] at h2
        rcases h2 with h2 | h2
        · exact oper_round (fun c => hd i o c ho) (Oper.wp_mono (fun a w h => ih _ _ _ h) h2)
        · exact absurd h2.2 hno
      · rename_i hw
        simp only [hw] at h2
        exact ⟨fun _ _ => trivial, ih _ _ _ h2⟩

/-- No operation defers. -/
def noDefer (ops : Array Oper) : Bool := ops.all fun o => match o.op with | .defer _ => false | _ => true

theorem noDefer_spec {ops : Array Oper} (h : noDefer ops = true) (i : Nat) (o : Oper) (c) (ho : ops[i]? = some o) : o.op ≠ .defer c := by
  intro e
  unfold noDefer at h
  rw [Array.all_eq_true] at h
  obtain ⟨hi, rfl⟩ := Array.getElem?_eq_some_iff.1 ho
  have := h i hi
  rw [e] at this
  cases this

theorem region_held_round {P : Program} {id : Nat} {ops : Array Oper} {Q : Exit → Act → World → Prop} {S : World → Prop} {a : Act} {w : World} {n l : Nat} (hm : P.follows .mixedOrders = true) (hd : noDefer ops = true) (hno : ¬ LetsOut Q) (hS : S w.drew)
    (h : S w.drew → wpAnyH P .any ops Q S ops.size (Array.replicate ops.size false) a w.drew) : (Code.region id ops true).wpIn (Fence.wide.inRound l) n P Q a w :=
  wpIn_region_any hm (any_round (noDefer_spec hd) hno _ _ _ _ (wpAny_of_held _ _ _ _ (h hS)))

end Go.Proofs.RF

namespace Go.Proofs.RF
open Go Go.RowKit

/-- The loop's record stands at b + 1, the rounds' deferred calls (none) at b. -/
def Bk (b : Nat) (r : Loop) (W : World) : Prop := W.heap[b + 1]? = some (.loop r) ∧ W.heap[b]? = some (.deferred (some []))

theorem Bk.lt {b : Nat} {r : Loop} {W : World} (h : Bk b r W) : b + 1 < W.heap.size := (Array.getElem?_eq_some_iff.1 h.1).1
theorem Bk.grown {b : Nat} {r : Loop} {A A' : World} {row : Option Nat} (h : Bk b r A) (hg : A.grownBy A' row) (hr : ∀ k, row = some k → k < b) : Bk b r A' :=
  ⟨(hg.block _ h.lt (fun e => by have := hr _ e.symm; omega)).trans h.1, (hg.block _ (by have := h.lt; omega) (fun e => by have := hr _ e.symm; omega)).trans h.2⟩
theorem Bk.kept {b : Nat} {r : Loop} {A A' : World} (h : Bk b r A) (hk : KeepsFrom b A A') : Bk b r A' :=
  ⟨hk.same _ _ (by omega) h.1 rfl, hk.same _ _ (Nat.le_refl _) h.2 rfl⟩
theorem Bk.put {b : Nat} {r : Loop} {A : World} (h : Bk b r A) (r' : Loop) : Bk b r' (A.putObj (b + 1) (.loop r')) :=
  ⟨World.putObj_heap_same h.lt, (World.putObj_heap_other (by omega)).trans h.2⟩

/-- What is said of a world does not mind new blocks, a turn of block B, or one of what is no cells from b on. -/
def Calm {β : Type} (B b : Nat) (I : β → World → Prop) : Prop :=
  ∀ s A A' row, I s A → A.grownBy A' row → (∀ k, row = some k → k = B ∨ (b ≤ k ∧ ∃ o : Obj, A.heap[k]? = some o ∧ o.isCells = false)) → I s A'

theorem Calm.alloc {β : Type} {B b : Nat} {I : β → World → Prop} (h : Calm B b I) {s : β} {A : World} (o : Obj) (hs : I s A) : I s (A.alloc o) :=
  h s A _ none hs (World.grownBy_alloc A o none) (fun k e => by cases e)
theorem Calm.put {β : Type} {B b : Nat} {I : β → World → Prop} (h : Calm B b I) {s : β} {A : World} {r : Loop} (hk : Bk b r A) (r' : Loop) (hs : I s A) : I s (A.putObj (b + 1) (.loop r')) :=
  h s A _ (some (b + 1)) hs (grownBy_putObj' A _ _) (fun k e => by cases e; exact .inr ⟨by omega, _, hk.1, rfl⟩)
theorem Calm.and {β : Type} {B b : Nat} {I J : β → World → Prop} (h : Calm B b I) (k : Calm B b J) : Calm B b (fun s W => I s W ∧ J s W) :=
  fun s A A' row hs hg hr => ⟨h s A A' row hs.1 hg hr, k s A A' row hs.2 hg hr⟩

/-- An iterator that writes block B alone, of what lay: whatever a caller holds that does not mind that. Y: what it hands out; S: what has come when it is done. -/
def Walks {α : Type} (n : Nat) (P : Program) (g : Nat) (lb : Array Value) (encs : α → Array Value) (B : Nat) (Kp : World → World → Prop) (Y : List α → α → Prop) (S : List α → Prop) (w : World) : Prop :=
  ∀ (l : Nat) (J : List α → World → Prop) (Jx : World → Prop) (W : World), Below w.heap.size w W →
    (∀ s A A' row, J s A → A.grownBy A' row → (∀ k, row = some k → k = B) → J s A') →
    (∀ pre x W1, J pre W1 → Y pre x → YieldAt Fence.wide (n - 1) P l (encs x) W1 fun e W' =>
      (e = .returned (.bool true) ∧ J (pre ++ [x]) W' ∧ Kp W1 W') ∨ (e = .returned (.bool false) ∧ Jx W')) →
    J [] W →
    CallsIn Fence.wide n P g (#[.func (.yield l) #[] #[]] ++ lb) W fun e W' => (∃ v, e = .returned v) ∧ ((∃ xs, S xs ∧ J xs W') ∨ Jx W')

/-- How a round's body is left: it goes on, or it returns. -/
def left {α : Type} (b : Nat) (Kp : World → World → Prop) (I : List α → World → Prop) (Ix : World → Prop) (xs : List α) (W : World) : Exit → Act → World → Prop
  | .normal, _, W' => KeepsFrom b W W' ∧ Kp W W' ∧ I xs W'
  | .ret, _, W' => KeepsFrom b W W' ∧ Ix W'
  | _, _, _ => False

theorem rangeFunc {α : Type} {n : Nat} {P : Program} {g : Operand} {ps : Array Tmp} {assign body : Code} {Q : Exit → Act → World → Prop} {a : Act} {w : World}
    {gf : Nat} {lb : Array Value} (hg : a.eval g = .func (.func gf) #[] lb) (eg : ∀ args w, (callFunc gf args).run P w = .ok (.enter gf args) w) (h1 : 1 ≤ n)
    {encs : α → Array Value} (hps : ∀ x, (encs x).size = ps.size) (B : Nat) (hB : B < w.heap.size) {Kp : World → World → Prop} {Y : List α → α → Prop} {S : List α → Prop}
    (hit : Walks (n - 1) P gf lb encs B Kp Y S w)
    (hKt : ∀ {X Y Z : World}, Kp X Y → Kp Y Z → Kp X Z) (hKb : ∀ (W : World) (l : Nat) (o : Obj), w.heap.size ≤ l → Kp W (W.putObj l o))
    (I : List α → World → Prop) (Ix : World → Prop) (hI : Calm B w.heap.size I) (hIx : Calm B w.heap.size (fun (_ : Unit) => Ix)) (h0 : I [] w)
    (Ax : α → Act → World → Prop) (hAx : ∀ a', Calm B w.heap.size (fun x W => Ax x a' W))
    (hassign : ∀ (l : Nat) (pre : List α) (x : α) (W : World) (K : Act → World → Prop), I pre W → Y pre x → (∀ a' W', KeepsFrom w.heap.size W W' → Kp W W' → I pre W' → Ax x a' W' → K a' W') →
      assign.wpIn (Fence.wide.inRound l) (n - 1 - 1) P (Exit.then K (fun _ _ _ => False)) { tmps := (ps.zip (encs x)).foldl (fun t (p, v) => t.setIfInBounds p v) a.tmps, defers := [] } W)
    (hbody : ∀ (l : Nat) (pre : List α) (x : α) (a' : Act) (W : World), I pre W → Ax x a' W → Y pre x → body.wpIn (Fence.wide.inRound l) (n - 1 - 1) P (left w.heap.size Kp I Ix (pre ++ [x]) W) a' W)
    (hdone : ∀ (xs : List α) (W : World), S xs → I xs W → W.heap[w.heap.size]? = some (.deferred (some [])) → Q .normal { a with defers := { target := .collected w.heap.size, args := #[] } :: a.defers } W)
    (hstop : ∀ (W : World), Ix W → W.heap[w.heap.size]? = some (.deferred (some [])) → Code.ret.wpIn Fence.wide n P Q { a with defers := { target := .collected w.heap.size, args := #[] } :: a.defers } W) :
    (Code.rangeFunc g ps assign body).wpIn Fence.wide n P Q a w := by
  refine wpIn_rangeFunc fun fn hfn => ?_
  obtain ⟨r, hr⟩ : ∃ r : Loop, r = { state := .ready, pending := none, fn, tmps := a.tmps, params := ps, assign, body, defers := w.heap.size } := ⟨_, rfl⟩
  obtain ⟨W1, hW1⟩ : ∃ W1, W1 = (w.alloc (.deferred (some []))).alloc (.loop r) := ⟨_, rfl⟩
  have hbk : Bk w.heap.size r W1 := by
    constructor
    · rw [hW1]
      have := World.alloc_heap_new (w.alloc (.deferred (some []))) (.loop r)
      rwa [World.size_alloc] at this
    · rw [hW1]
      exact (Below.heap_alloc _ _ _ (by simp)).trans (World.alloc_heap_new w _)
  have hI1 : I [] W1 := by rw [hW1]; exact hI.alloc _ (hI.alloc _ h0)
  have hb1 : Below w.heap.size w W1 := by rw [hW1]; exact ((Below.refl _ w).alloc (Nat.le_refl _) _).alloc (by simp) _
  refine ⟨w.heap.size + 1, [{ target := .collected w.heap.size, args := #[] }], W1, { target := .fn (.func gf) lb, args := #[.func (.yield (w.heap.size + 1)) #[] #[]] }, W1, gf,
    #[.func (.yield (w.heap.size + 1)) #[] #[]] ++ lb, W1, ?_, ?_, fun _ _ => trivial, ?_, fun _ => h1, ?_⟩
  · rw [hW1, hr]; exact run_enterLoop_outer _ _ _ _ _
  · simp only [resolve, hg]
    simp [go_sem]
  · simp [invoke, go_sem, eg]
  refine (hit (w.heap.size + 1) (fun pre W => I pre W ∧ Bk w.heap.size r W) (fun W => Ix W ∧ Bk w.heap.size { r with state := .done, pending := some .ret } W) W1 hb1
    (fun s A A' row hs hgr hrow => ⟨hI s A A' row hs.1 hgr (fun k e => .inl (hrow k e)), hs.2.grown hgr (fun k e => by rw [hrow k e]; exact hB)⟩) ?_ ⟨hI1, hbk⟩).mono ?_
  · rintro pre x W ⟨hi, hk⟩ hy
    have hyl := run_yield (P := P) (args := encs x) hk.1 (by rw [hr]; exact hps x)
    refine ⟨r.fn, _, r.assign, r.body, hyl, roundIn_of_wpIn trivial ?_⟩
    clear hyl
    subst hr
    refine hassign _ pre x W _ hi hy fun a' Wa hka hpa hia hax => ?_
    have hk2 := hk.kept hka
    have hk3 := hk2.put { ({ state := .ready, pending := none, fn, tmps := a.tmps, params := ps, assign, body, defers := w.heap.size } : Loop) with state := .busy }
    refine ⟨_, run_beginRound hk2.1 rfl, ?_⟩
    refine wpIn_mono (hbody _ pre x a' _ (hI.put hk2 _ hia) (hAx a' x _ _ (some (w.heap.size + 1)) hax (grownBy_putObj' _ _ _) (fun k e => by cases e; exact .inr ⟨by omega, _, hk2.1, rfl⟩)) hy) ?_
    rintro e a3 W3 hp
    cases e with
    | normal =>
      obtain ⟨k3, p3, i3⟩ := hp
      have hk4 := hk3.kept k3
      exact ⟨_, _, run_endRound none hk4.1, .inl ⟨rfl, ⟨hI.put hk4 _ i3, hk4.put _⟩, hKt hpa (hKt (hKb _ _ _ (by omega)) (hKt p3 (hKb _ _ _ (by omega))))⟩⟩
    | ret =>
      obtain ⟨k3, i3⟩ := hp
      have hk4 := hk3.kept k3
      exact ⟨_, _, run_endRound (some .ret) hk4.1, .inr ⟨rfl, hIx.put (s := ()) hk4 _ i3, hk4.put _⟩⟩
    | exit id => exact hp.elim
    | goto t => exact hp.elim
    | panic ch => exact hp.elim
    | outgrown => exact hp.elim
  · rintro e W2 ⟨⟨v, rfl⟩, (⟨xs, hS, hi, hk⟩ | ⟨hi, hk⟩)⟩
    · exact ⟨none, _, (by have := run_endLoop (P := P) hk.1 (by rw [hr]; simp); rw [this, hr]), hdone xs _ hS (hI.put hk _ hi) (hk.put _).2⟩
    · exact ⟨some .ret, _, run_endLoop (P := P) hk.1 (by simp), hstop _ (hIx.put (s := ()) hk _ hi) (hk.put _).2⟩

end Go.Proofs.RF
