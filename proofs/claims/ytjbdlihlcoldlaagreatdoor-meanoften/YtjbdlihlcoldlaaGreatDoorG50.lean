/- So often is so often: plain. -/
import Derived.Test.YtjbdlihlcoldlaaGreatDoorG42
namespace MN

theorem upto_swap {G : Nat → Nat} (hG : Add G) : ∀ n s, G (upto G n s) = upto G n (G s) := by
  intro n
  induction n with
  | zero => intro s; rfl
  | succ n ih =>
    intro s
    show G (s ||| G (upto G n s)) = G s ||| G (upto G n (G s))
    rw [hG.or, ih s]

/-- Any times is never, or once and then any times. -/
theorem upto_once {G : Nat → Nat} (hA : Add G) (hL : Low G) {s : Nat} (hs : s < 2 ^ 64) : upto G 64 s = s ||| G (upto G 64 s) := by
  have h := upto_all hA hL hs (m := 65) (by omega)
  rw [← h]
  show s ||| G (upto G 64 s) = _
  rw [h]

end MN
namespace Go.Proofs.YtjbdlihlcoldlaaGreatDoor.M
open Go.RowKit Go.Shelf Go.Proofs.YtjbdlihlcoldlaaGreatDoor.Q

/-- Whither a pattern goes from some places. -/
noncomputable def runQ (T : CK.Tab) (pts : List Int) (back : Bool) (p : RP.Pt) : Nat → Nat :=
  (MN.ev back (mask (fun i => decide (i = if back then 0 else pts.length)) (pts.length + 1)) (rdy back (unitsQ T pts (pts.length + 1)) (mask (fun i => decide (i < pts.length)) (pts.length + 1)) p).1).1

theorem stand_run (T : CK.Tab) (pts : List Int) (back : Bool) (p : RP.Pt) : standQ T pts back p = runQ T pts back p (mask (fun _ => true) (pts.length + 1)) := rfl

theorem run_add (T : CK.Tab) (pts : List Int) (back : Bool) (p : RP.Pt) : MN.Add (runQ T pts back p) := (MN.ev_add _ _ _).1

theorem run_low (T : CK.Tab) (pts : List Int) (back : Bool) (p : RP.Pt) : MN.Low (runQ T pts back p) := (MN.ev_low _ _ _).1

theorem run_cat0 (T : CK.Tab) (pts : List Int) (back : Bool) (s : Nat) : runQ T pts back (.cat .nil) s = s := by cases back <;> rfl
theorem run_cat2 (T : CK.Tab) (pts : List Int) (back : Bool) (a b : RP.Pt) (s : Nat) : runQ T pts back (.cat (.cons a (.cons b .nil))) s = if back then runQ T pts back b (runQ T pts back a s) else runQ T pts back a (runQ T pts back b s) := by cases back <;> rfl
theorem run_alt2 (T : CK.Tab) (pts : List Int) (back : Bool) (a b : RP.Pt) (s : Nat) : runQ T pts back (.alt (.cons a (.cons b .nil))) s = runQ T pts back a s ||| runQ T pts back b s := by
  cases back with
  | true =>
    show runQ T pts true a s ||| (runQ T pts true b s ||| 0) = _
    rw [Nat.or_zero]
  | false =>
    show runQ T pts false b s ||| (runQ T pts false a s ||| 0) = _
    rw [Nat.or_zero, MN.or_comm]
theorem run_many (T : CK.Tab) (pts : List Int) (back : Bool) (a : RP.Pt) (lo hi : Int) (s : Nat) : runQ T pts back (.many a lo hi) s = MN.rep (runQ T pts back a) lo.toNat hi s := by cases back <;> rfl
theorem run_edge (T : CK.Tab) (pts : List Int) (back : Bool) (s : Nat) : runQ T pts back .edge s = s &&& mask (fun i => decide (i = if back then 0 else pts.length)) (pts.length + 1) := by cases back <;> rfl

/-- Two patterns that go alike. -/
def Alike (T : CK.Tab) (pts : List Int) (back : Bool) (a b : RP.Pt) : Prop := ∀ s, s < 2 ^ 64 → runQ T pts back a s = runQ T pts back b s

theorem full_small (n : Nat) (h : n ≤ 64) : mask (fun _ => true) n < 2 ^ 64 := mask_lt _ _ h

theorem Alike.stand {T : CK.Tab} {pts : List Int} {back : Bool} {a b : RP.Pt} (h : Alike T pts back a b) (hn : pts.length ≤ 63) : standQ T pts back a = standQ T pts back b := by
  rw [stand_run, stand_run]
  exact h _ (full_small _ (by omega))

/-- The same up to the text's end. -/
def endP (back : Bool) (a : RP.Pt) : RP.Pt := if back then .cat (.cons .edge (.cons a .nil)) else .cat (.cons a (.cons .edge .nil))

theorem Alike.end_ {T : CK.Tab} {pts : List Int} {back : Bool} {a b : RP.Pt} (h : Alike T pts back a b) : Alike T pts back (endP back a) (endP back b) := by
  intro s hs
  cases back with
  | true =>
    show runQ T pts true (.cat (.cons .edge (.cons a .nil))) s = runQ T pts true (.cat (.cons .edge (.cons b .nil))) s
    rw [run_cat2, run_cat2, if_pos rfl, if_pos rfl]
    exact h _ (run_low T pts true .edge s hs)
  | false =>
    show runQ T pts false (.cat (.cons a (.cons .edge .nil))) s = runQ T pts false (.cat (.cons b (.cons .edge .nil))) s
    rw [run_cat2, run_cat2, if_neg (by decide), if_neg (by decide)]
    exact h _ (run_low T pts false .edge s hs)

theorem often_any (T : CK.Tab) (pts : List Int) (back : Bool) (x : RP.Pt) : Alike T pts back (.many x 0 (-1)) (.alt (.cons (.cat .nil) (.cons (.cat (.cons x (.cons (.many x 0 (-1)) .nil))) .nil))) := by
  intro s hs
  have hA := run_add T pts back x
  have hL := run_low T pts back x
  have e : ∀ s, MN.rep (runQ T pts back x) (0 : Int).toNat (-1) s = MN.upto (runQ T pts back x) 64 s := fun _ => rfl
  have h := MN.upto_once hA hL hs
  cases back with
  | true =>
    rw [run_many, e, run_alt2, run_cat0, run_cat2, if_pos rfl, run_many, e, ← MN.upto_swap hA]
    exact h
  | false =>
    rw [run_many, e, run_alt2, run_cat0, run_cat2, if_neg (by decide), run_many, e]
    exact h

theorem often_twice (T : CK.Tab) (pts : List Int) (back : Bool) (x : RP.Pt) : Alike T pts back (.many x 2 2) (.cat (.cons x (.cons x .nil))) := by
  intro s _
  rw [run_many, run_cat2]
  cases back <;> rfl

theorem often_perhaps (T : CK.Tab) (pts : List Int) (back : Bool) (x : RP.Pt) : Alike T pts back (.many x 0 1) (.alt (.cons x (.cons (.cat .nil) .nil))) := by
  intro s _
  rw [run_many, run_alt2, run_cat0]
  show s ||| runQ T pts back x s = _
  exact MN.or_comm _ _

theorem often_some (T : CK.Tab) (pts : List Int) (back : Bool) (x : RP.Pt) : Alike T pts back (.many x 1 (-1)) (.cat (.cons (.many x 0 (-1)) (.cons x .nil))) := by
  intro s _
  have hA := run_add T pts back x
  rw [run_many, run_cat2, run_many]
  have e1 : MN.rep (runQ T pts back x) (1 : Int).toNat (-1) s = MN.upto (runQ T pts back x) 64 (runQ T pts back x s) := rfl
  have e : ∀ s, MN.rep (runQ T pts back x) (0 : Int).toNat (-1) s = MN.upto (runQ T pts back x) 64 s := fun _ => rfl
  rw [e1]
  cases back with
  | true => rw [if_pos rfl, e, MN.upto_swap hA]
  | false => rw [if_neg (by decide), run_many, e]

theorem often_three (T : CK.Tab) (pts : List Int) (back : Bool) (x : RP.Pt) : Alike T pts back (.many x 1 3) (.cat (.cons x (.cons (.many x 0 2) .nil))) := by
  intro s _
  have hA := run_add T pts back x
  rw [run_many, run_cat2]
  have e1 : MN.rep (runQ T pts back x) (1 : Int).toNat 3 s = MN.upto (runQ T pts back x) 2 (runQ T pts back x s) := rfl
  have e : ∀ s, MN.rep (runQ T pts back x) (0 : Int).toNat 2 s = MN.upto (runQ T pts back x) 2 s := fun _ => rfl
  rw [e1]
  cases back with
  | true => rw [if_pos rfl, run_many, e]
  | false => rw [if_neg (by decide), run_many, e, MN.upto_swap hA]

end Go.Proofs.YtjbdlihlcoldlaaGreatDoor.M

namespace Go.Proofs.YtjbdlihlcoldlaaGreatDoor.M
open Go.RowKit Go.Shelf Go.Proofs.YtjbdlihlcoldlaaGreatDoor.Q

/-- A pattern at hand. -/
def Pat (W : World) (b : Nat) (p : RP.Pt) : Prop := PAt (fun _ => True) W [.pointer (some ⟨b, 0, none⟩)] p ∧ b < W.heap.size

theorem Pat.on {W W' : World} {b : Nat} {p : RP.Pt} (h : Pat W b p) (hb : Below W.heap.size W W') : Pat W' b p := ⟨h.1.keep (keepsB hb), Nat.lt_of_lt_of_le h.2 hb.size⟩

theorem row_two {W : World} {g : Nat} {u v : Value} (h : W.heap[g]? = some (.cells #[u, v] 35 (0, 0))) : Row (fun _ => True) W 35 1 (.slice (some ⟨g, 0, none⟩) 2 2) 2 [u, v] :=
  ⟨⟨rfl, .inr ⟨g, 2, #[u, v], rfl, Nat.zero_le _, h, Nat.le_refl _, by unfold maxLen; omega, rfl, rfl⟩⟩, fun _ _ => trivial⟩

theorem row_one {W : World} {g : Nat} {u : Value} (h : W.heap[g]? = some (.cells #[u] 35 (0, 0))) : Row (fun _ => True) W 35 1 (.slice (some ⟨g, 0, none⟩) 1 1) 1 [u] :=
  ⟨⟨rfl, .inr ⟨g, 1, #[u], rfl, Nat.zero_le _, h, Nat.le_refl _, by unfold maxLen; omega, rfl, rfl⟩⟩, fun _ _ => trivial⟩

theorem row_none {W : World} : Row (fun _ => True) W 35 1 (.slice none 0 0) 0 [] := ⟨World.ownsRow_nil _ _ _ _, fun j h => by simp [Value.ownBlock] at h⟩

/-- What a closure that makes a pattern answers. -/
def Makes (W : World) (p : RP.Pt) (e : Ending) (W' : World) : Prop := (∃ b, e = .returned (.pointer (some ⟨b, 0, none⟩)) ∧ Pat W' b p) ∧ Below W.heap.size W W'

set_option maxHeartbeats 1000000 in
theorem cat_two {W : World} {g ub vb : Nat} {pu pv : RP.Pt} (hg : W.heap[g]? = some (.cells #[.pointer (some ⟨ub, 0, none⟩), .pointer (some ⟨vb, 0, none⟩)] 35 (0, 0))) (hu : Pat W ub pu) (hv : Pat W vb pv) :
    Calls Tryz.prog 25 #[.slice (some ⟨g, 0, none⟩) 2 2] W (Makes W (.cat (.cons pu (.cons pv .nil)))) := by
  have hb := below_alloc1 W (.cells #[.int .i64 4, .pointer none, .slice (some ⟨g, 0, none⟩) 2 2, .int .i64 0, .int .i64 0] 39)
  have hn := heap_alloc_new W (.cells #[.int .i64 4, .pointer none, .slice (some ⟨g, 0, none⟩) 2 2, .int .i64 0, .int .i64 0] 39)
  have HP : Hid (Makes W (.cat (.cons pu (.cons pv .nil))) (.returned (.pointer (some ⟨W.heap.size, 0, none⟩))) (W.alloc (.cells #[.int .i64 4, .pointer none, .slice (some ⟨g, 0, none⟩) 2 2, .int .i64 0, .int .i64 0] 39))) :=
    ⟨⟨_, rfl, ⟨_, _, [.pointer (some ⟨ub, 0, none⟩), .pointer (some ⟨vb, 0, none⟩)], rfl, trivial, hn, row_two ((hb.block g (lt_of_block hg)).trans hg), ⟨_, _, rfl, (hu.on hb).1, ⟨_, _, rfl, (hv.on hb).1, rfl⟩⟩⟩, by simp⟩, hb⟩
  clear hb hn hg hu hv
  go_enter Tryz.func25, Tryz.ntmps25
  go_wp2_with fail
  go_ret
  exact HP.out

set_option maxHeartbeats 1000000 in
theorem alt_two {W : World} {g ub vb : Nat} {pu pv : RP.Pt} (hg : W.heap[g]? = some (.cells #[.pointer (some ⟨ub, 0, none⟩), .pointer (some ⟨vb, 0, none⟩)] 35 (0, 0))) (hu : Pat W ub pu) (hv : Pat W vb pv) :
    Calls Tryz.prog 26 #[.slice (some ⟨g, 0, none⟩) 2 2] W (Makes W (.alt (.cons pu (.cons pv .nil)))) := by
  have hb := below_alloc1 W (.cells #[.int .i64 5, .pointer none, .slice (some ⟨g, 0, none⟩) 2 2, .int .i64 0, .int .i64 0] 39)
  have hn := heap_alloc_new W (.cells #[.int .i64 5, .pointer none, .slice (some ⟨g, 0, none⟩) 2 2, .int .i64 0, .int .i64 0] 39)
  have HP : Hid (Makes W (.alt (.cons pu (.cons pv .nil))) (.returned (.pointer (some ⟨W.heap.size, 0, none⟩))) (W.alloc (.cells #[.int .i64 5, .pointer none, .slice (some ⟨g, 0, none⟩) 2 2, .int .i64 0, .int .i64 0] 39))) :=
    ⟨⟨_, rfl, ⟨_, _, [.pointer (some ⟨ub, 0, none⟩), .pointer (some ⟨vb, 0, none⟩)], rfl, trivial, hn, row_two ((hb.block g (lt_of_block hg)).trans hg), ⟨_, _, rfl, (hu.on hb).1, ⟨_, _, rfl, (hv.on hb).1, rfl⟩⟩⟩, by simp⟩, hb⟩
  clear hb hn hg hu hv
  go_enter Tryz.func26, Tryz.ntmps26
  go_wp2_with fail
  go_ret
  exact HP.out

set_option maxHeartbeats 1000000 in
theorem cat_none (W : World) : Calls Tryz.prog 25 #[.slice none 0 0] W (Makes W (.cat .nil)) := by
  have hb := below_alloc1 W (.cells #[.int .i64 4, .pointer none, .slice none 0 0, .int .i64 0, .int .i64 0] 39)
  have hn := heap_alloc_new W (.cells #[.int .i64 4, .pointer none, .slice none 0 0, .int .i64 0, .int .i64 0] 39)
  have HP : Hid (Makes W (.cat .nil) (.returned (.pointer (some ⟨W.heap.size, 0, none⟩))) (W.alloc (.cells #[.int .i64 4, .pointer none, .slice none 0 0, .int .i64 0, .int .i64 0] 39))) :=
    ⟨⟨_, rfl, ⟨_, _, [], rfl, trivial, hn, row_none, rfl⟩, by simp⟩, hb⟩
  clear hb hn
  go_enter Tryz.func25, Tryz.ntmps25
  go_wp2_with fail
  go_ret
  exact HP.out

set_option maxHeartbeats 1000000 in
theorem many_one {W : World} {X xb : Nat} {x : RP.Pt} (lo hi : Int) (hX : W.cell? ⟨X, 0, none⟩ = some (.pointer (some ⟨xb, 0, none⟩))) (hx : Pat W xb x) :
    Calls Tryz.prog 24 #[.int .i64 lo, .int .i64 hi, .pointer (some ⟨X, 0, none⟩)] W (Makes W (.many x lo hi)) := by
  have hb0 := below_alloc1 W (.cells #[.pointer (some ⟨xb, 0, none⟩)] 35)
  have hn0 := heap_alloc_new W (.cells #[.pointer (some ⟨xb, 0, none⟩)] 35)
  have hs : (W.alloc (.cells #[.pointer (some ⟨xb, 0, none⟩)] 35)).heap.size = W.heap.size + 1 := by simp
  have hb1 := below_alloc1 (W.alloc (.cells #[.pointer (some ⟨xb, 0, none⟩)] 35)) (.cells #[.int .i64 6, .pointer none, .slice (some ⟨W.heap.size, 0, none⟩) 1 1, .int .i64 lo, .int .i64 hi] 39)
  have hn1 := heap_alloc_new (W.alloc (.cells #[.pointer (some ⟨xb, 0, none⟩)] 35)) (.cells #[.int .i64 6, .pointer none, .slice (some ⟨W.heap.size, 0, none⟩) 1 1, .int .i64 lo, .int .i64 hi] 39)
  rw [hs] at hn1
  have hb := hb0.trans (hb1.mono hb0.size)
  have HP : Hid (Makes W (.many x lo hi) (.returned (.pointer (some ⟨W.heap.size + 1, 0, none⟩))) ((W.alloc (.cells #[.pointer (some ⟨xb, 0, none⟩)] 35)).alloc (.cells #[.int .i64 6, .pointer none, .slice (some ⟨W.heap.size, 0, none⟩) 1 1, .int .i64 lo, .int .i64 hi] 39))) :=
    ⟨⟨_, rfl, ⟨_, _, [.pointer (some ⟨xb, 0, none⟩)], rfl, trivial, hn1, row_one ((hb1.block W.heap.size (by rw [hs]; omega)).trans hn0), (hx.on hb).1⟩, by simp⟩, hb⟩
  clear hb hb0 hb1 hn0 hn1 hs hx
  go_enter Tryz.func24, Tryz.ntmps24
  go_wp2_with fail
  go_ret
  exact HP.out

end Go.Proofs.YtjbdlihlcoldlaaGreatDoor.M
