/- MeanOften: its closures, lifted; pick. -/
import Derived.Test.YtjbdlihlcoldlaaGreatDoorG51
namespace Go.Proofs.YtjbdlihlcoldlaaGreatDoor.M
open Go.RowKit Go.Shelf Go.Proofs.YtjbdlihlcoldlaaGreatDoor.Q

theorem pick_math (x : Int) (n : Nat) (h1 : 1 ≤ n) (h2 : n ≤ 64) : ∃ p : Nat, p < n ∧ wrap64 ((IntKind.u64.wrap x).tmod (n : Int)) = (p : Int) := by
  have h : 0 ≤ IntKind.u64.wrap x := by rw [IntKind.wrap_u64]; omega
  rw [Int.tmod_eq_emod_of_nonneg h]
  generalize IntKind.u64.wrap x = y at h
  have g1 : 0 ≤ y % (n : Int) := Int.emod_nonneg _ (by omega)
  have g2 : y % (n : Int) < (n : Int) := Int.emod_lt_of_pos _ (by omega)
  generalize y % (n : Int) = z at g1 g2
  refine ⟨z.toNat, by omega, ?_⟩
  unfold wrap64
  omega

set_option maxRecDepth 100000 in
theorem pick_any (x : Int) (n : Nat) (h1 : 1 ≤ n) (h2 : n ≤ 64) (w : World) : Calls Tryz.prog 23 #[.int .i64 x, .int .i64 n] w fun e w' => (∃ p : Nat, p < n ∧ e = .returned (.int .i64 p)) ∧ w' = w := by
  have hn : IntKind.u64.wrap (n : Int) = n := wrap_u64 n (by omega)
  have hz : ((n : Int) == 0) = false := by simp; omega
  have hz2 : ¬ ((n : Int) = 0) := by omega
  have hz3 : ¬ (n = 0) := by omega
  obtain ⟨p, hp, e⟩ := pick_math x n h1 h2
  have HE : Hid (p < n ∧ wrap64 ((IntKind.u64.wrap x).tmod (n : Int)) = (p : Int)) := ⟨hp, e⟩
  clear hp e
  go_enter Tryz.func23, Tryz.ntmps23
  go_wp2_with fail
  go_ret
  exact ⟨⟨p, HE.out.1, ret_int HE.out.2⟩, rfl⟩

/-- What the law holds of what its closures captured. -/
def OB (w : World) (X xa cb eb kb mb ub pb xe : Nat) (back : Bool) (mv uv : Value) (i : Nat) (W : World) : Prop :=
  W.cell? ⟨X, 0, none⟩ = some (.pointer (some ⟨xa, 0, none⟩)) ∧ SB w cb eb kb mb ub pb xe back mv uv i W

theorem OB.on {w : World} {X xa cb eb kb mb ub pb xe : Nat} {back : Bool} {mv uv : Value} {i : Nat} {W W' : World} (h : OB w X xa cb eb kb mb ub pb xe back mv uv i W) (hb : Below W.heap.size W W') : OB w X xa cb eb kb mb ub pb xe back mv uv i W' :=
  ⟨(hb.cell (by exact lt_cell h.1)).trans h.1, h.2.on hb⟩

theorem OB.open_ {w : World} {X xa cb eb kb mb ub pb xe : Nat} {back : Bool} {mv uv : Value} {i : Nat} {W : World} (h : OB w X xa cb eb kb mb ub pb xe back mv uv i W) :
    W.cell? ⟨X, 0, none⟩ = some (.pointer (some ⟨xa, 0, none⟩)) ∧ W.cell? ⟨cb, 0, none⟩ = some (.func (.func 25) #[] #[]) ∧ W.cell? ⟨eb, 0, none⟩ = some (.pointer (some ⟨xe, 0, none⟩)) ∧ W.cell? ⟨kb, 0, none⟩ = some (.bool back) ∧ W.cell? ⟨mb, 0, none⟩ = some mv ∧ W.cell? ⟨ub, 0, none⟩ = some uv ∧ W.cell? ⟨pb, 0, none⟩ = some (.int .i64 i) ∧ Below w.heap.size w W := h

/-- A call that makes a pattern, and keeps what is held. -/
def MakesO (w : World) (X xa cb eb kb mb ub pb xe : Nat) (back : Bool) (mv uv : Value) (i : Nat) (p : RP.Pt) (V : World) (e : Ending) (V' : World) : Prop :=
  (∃ z, e = .returned (.pointer (some ⟨z, 0, none⟩)) ∧ Pat V' z p) ∧ OB w X xa cb eb kb mb ub pb xe back mv uv i V' ∧ Below V.heap.size V V'

theorem Makes.lift {w : World} {X xa cb eb kb mb ub pb xe : Nat} {back : Bool} {mv uv : Value} {i : Nat} {p : RP.Pt} {V : World} (h : OB w X xa cb eb kb mb ub pb xe back mv uv i V) {e : Ending} {V' : World} (k : Makes V p e V') : MakesO w X xa cb eb kb mb ub pb xe back mv uv i p V e V' := ⟨k.1, h.on k.2, k.2⟩

theorem enter24 (args : Array Value) (w : World) : (callFunc 24 args).run Tryz.prog w = .ok (.enter 24 args) w := by kernel_rfl
theorem enter26 (args : Array Value) (w : World) : (callFunc 26 args).run Tryz.prog w = .ok (.enter 26 args) w := by kernel_rfl
theorem enter27 (args : Array Value) (w : World) : (callFunc 27 args).run Tryz.prog w = .ok (.enter 27 args) w := by kernel_rfl

theorem good_many {x : RP.Pt} (h : Good x) (lo hi : Int) (h1 : 0 ≤ lo) (h2 : lo ≤ 12) (h3 : -1 ≤ hi) (h4 : hi ≤ 12) : Good (.many x lo hi) := ⟨⟨rfl, h.1, h1, h2, h3, h4⟩, h.2⟩
theorem good_none : Good (.cat .nil) := ⟨⟨rfl, rfl⟩, by decide, trivial⟩
theorem good_cat2 {x y : RP.Pt} (h : Good x) (k : Good y) : Good (.cat (.cons x (.cons y .nil))) := ⟨⟨rfl, rfl, h.1, rfl, k.1, rfl⟩, by simp [items], h.2, k.2, trivial⟩
theorem good_alt2 {x y : RP.Pt} (h : Good x) (k : Good y) : Good (.alt (.cons x (.cons y .nil))) := ⟨⟨rfl, rfl, h.1, rfl, k.1, rfl⟩, by simp [items], h.2, k.2, trivial⟩

end Go.Proofs.YtjbdlihlcoldlaaGreatDoor.M
