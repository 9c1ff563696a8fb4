/- Slices of ranges at hand, and the contracts of set.Right and set.both. -/
import Derived.Test.YtjbdlihlcoldlaaGreatDoorRows
import Derived.Test.YtjbdlihlcoldlaaGreatDoorG00
import Derived.WalkKit
import Derived.WalkSpells
import Derived.WalkLawsBesides
import Derived.BigQuiet
import Derived.Laws.Rows
import Derived.Laws.OwnMore
namespace Go.Proofs.YtjbdlihlcoldlaaGreatDoor
open Go.RowKit

theorem ret_int {k : IntKind} {a b : Int} (h : a = b) : Ending.returned (.int k a) = .returned (.int k b) := by rw [h]
theorem ret_bool {a b : Bool} (h : a = b) : Ending.returned (.bool a) = .returned (.bool b) := by rw [h]

/-- A range's two cells. -/
def cells2 (r : RS.Rg) : List Value := [.int .i64 r.1, .int .i64 r.2]
def flat2 (s : List RS.Rg) : List Value := s.flatMap cells2

theorem flat2_snoc (s : List RS.Rg) (r : RS.Rg) : flat2 (s ++ [r]) = flat2 s ++ cells2 r := by simp [flat2]

theorem flat2_length (s : List RS.Rg) : (flat2 s).length = s.length * 2 := by
  induction s with
  | nil => rfl
  | cons r s ih => show (cells2 r ++ flat2 s).length = _; rw [List.length_append, ih]; show 2 + _ = _; rw [List.length_cons]; omega

theorem flat2_get : ∀ (s : List RS.Rg) (k : Nat) (h : k < s.length), (flat2 s)[k * 2]? = some (.int .i64 s[k].1) ∧ (flat2 s)[k * 2 + 1]? = some (.int .i64 s[k].2) := by
  intro s
  induction s with
  | nil => intro k h; simp at h
  | cons u us ih =>
    intro k h
    have e : flat2 (u :: us) = cells2 u ++ flat2 us := rfl
    cases k with
    | zero => rw [e]; exact ⟨rfl, rfl⟩
    | succ k =>
      have := ih k (by simpa using h)
      have hl : (cells2 u).length = 2 := rfl
      rw [e, List.getElem?_append_right (by omega), List.getElem?_append_right (by omega), hl, show (k + 1) * 2 - 2 = k * 2 by omega, show (k + 1) * 2 + 1 - 2 = k * 2 + 1 by omega]
      exact this

/-- A slice value holds these ranges, in memory below B. -/
def RgAt (B : Nat) (w : World) (v : Value) (s : List RS.Rg) : Prop :=
  ∃ ao cap, v = .slice ao s.length cap ∧ (s.length ≤ cap ∧ (ao = none → cap = 0)) ∧ (s ≠ [] → ∃ b off, ao = some ⟨b, off, none⟩ ∧ b < B ∧ ∀ k (h : k < s.length),
    w.cell? ⟨b, off + k * 2, none⟩ = some (.int .i64 s[k].1) ∧ w.cell? ⟨b, off + k * 2 + 1, none⟩ = some (.int .i64 s[k].2))

theorem RgAt.below {w w' : World} {B : Nat} {v : Value} {s : List RS.Rg} (h : RgAt B w v s) (hb : Below B w w') (B' : Nat) (hB : B ≤ B') : RgAt B' w' v s := by
  obtain ⟨ao, cap, rfl, hc, h⟩ := h
  refine ⟨ao, cap, rfl, hc, fun hz => ?_⟩
  obtain ⟨b, off, e, hbl, hc⟩ := h hz
  exact ⟨b, off, e, by omega, fun k hk => ⟨(hb.cell (by exact hbl)).trans (hc k hk).1, (hb.cell (by exact hbl)).trans (hc k hk).2⟩⟩

theorem rg_of_own {w : World} {B : Nat} {v : Value} {s : List RS.Rg} (h : w.ownsRow B 46 2 v s.length (flat2 s)) : RgAt w.heap.size w v s := by
  have hk := h
  obtain ⟨h1, h2 | ⟨g, cap, cur, rfl, hg, hh, hn, hc, hs, ht⟩⟩ := h
  · obtain ⟨rfl, h0⟩ := h2
    obtain rfl : s = [] := List.length_eq_zero_iff.1 h0
    exact ⟨none, 0, rfl, ⟨Nat.le_refl _, fun _ => rfl⟩, fun h => absurd rfl h⟩
  · refine ⟨some ⟨g, 0, none⟩, cap, rfl, ⟨hn, fun h => by cases h⟩, fun _ => ⟨g, 0, rfl, lt_of_block hh, fun k h => ?_⟩⟩
    obtain ⟨k1, k2⟩ := flat2_get s k h
    have c := hk.cells (g := g) rfl
    have c1 := c _ _ k1
    have c2 := c _ _ k2
    simp only [Addr.add_lit, Nat.zero_add] at c1 c2
    simp only [Nat.zero_add]
    exact ⟨c1, c2⟩

theorem owns_mono {w : World} {B B' : Nat} {e : TypeId} {size : Nat} {v : Value} {n : Nat} {xs : List Value} (h : w.ownsRow B e size v n xs) (hB : B' ≤ B) : w.ownsRow B' e size v n xs := by
  obtain ⟨h1, h2 | ⟨g, cap, cur, rfl, hg, rest⟩⟩ := h
  · exact ⟨h1, Or.inl h2⟩
  · exact ⟨h1, Or.inr ⟨g, cap, cur, rfl, Nat.le_trans hB hg, rest⟩⟩

theorem info53 : (Tryz.prog.info? 46).map (fun i => (i.zero, i.size, i.bytes)) = some (some (.agg #[.int .i64 0, .int .i64 0]), 2, 16) := by kernel_rfl
theorem size53 : (Tryz.prog.info? 46).map (·.size) = some 2 := by kernel_rfl

theorem heap3 (w : World) (A B C : Obj) : (((w.alloc A).alloc B).alloc C).heap[w.heap.size + 1 + 1]? = some C := by
  have h := heap_alloc_new ((w.alloc A).alloc B) C
  simpa using h

theorem agg_eq {a b c d : Int} (h1 : a = c) (h2 : b = d) : Ending.returned (.agg #[.int .i64 a, .int .i64 b]) = .returned (.agg #[.int .i64 c, .int .i64 d]) := by rw [h1, h2]

set_option maxHeartbeats 1000000 in
set_option maxRecDepth 100000 in
/-- Right, at whatever ranges. -/
theorem right_some (b off cap : Nat) (s : List RS.Rg) (hlen : s.length ≤ 1000000) (w : World) (hb : b < w.heap.size)
    (hc : ∀ k (h : k < s.length), w.cell? ⟨b, off + k * 2, none⟩ = some (.int .i64 s[k].1) ∧ w.cell? ⟨b, off + k * 2 + 1, none⟩ = some (.int .i64 s[k].2)) :
    Calls Tryz.prog 15 #[.slice (some ⟨b, off, none⟩) s.length cap] w fun e w' => e = .returned (.bool (RS.right s)) ∧ Below w.heap.size w w' := by
  have HC : Hid (∀ k (h : k < s.length), w.cell? ⟨b, off + k * 2, none⟩ = some (.int .i64 s[k].1) ∧ w.cell? ⟨b, off + k * 2 + 1, none⟩ = some (.int .i64 s[k].2)) := hc
  clear hc
  go_enter Tryz.func15, Tryz.ntmps15
  go_wp2
  go_loopw [3, 8] (fun l i wr => ∃ (k : Nat) (last : Int), k ≤ s.length ∧ i = .int .i64 k ∧ l = .int .i64 last ∧ -2 ≤ last ∧ last ≤ 1114111 ∧ RS.right s = RS.rightFrom last (s.drop k) ∧ Below w.heap.size w wr) (fun _ i _ => s.length - (intOf i).toNat)
  case atStart => exact ⟨0, -2, Nat.zero_le _, rfl, rfl, by omega, by omega, rfl, Below.refl _ _⟩
  case round =>
    obtain ⟨k, last, hk, rfl, rfl, hl1, hl2, hr, hnx⟩ := hrel
    have HR : Hid (RS.right s = RS.rightFrom last (s.drop k)) := hr
    clear hr
    by_cases hlt : k < s.length
    · obtain ⟨x0, x1⟩ := HC.out k hlt
      replace x0 := (hnx.cell (p := ⟨b, off + k * 2, none⟩) (by exact hb)).trans x0
      replace x1 := (hnx.cell (p := ⟨b, off + k * 2 + 1, none⟩) (by exact hb)).trans x1
      obtain ⟨r, hr⟩ : ∃ r, r = s[k] := ⟨_, rfl⟩
      rw [← hr] at x0 x1
      have HRK : Hid (s.drop k = r :: s.drop (k + 1)) := by show _ = _; rw [hr]; exact List.drop_eq_getElem_cons hlt
      clear hr
      obtain ⟨lo, hi⟩ := r
      dsimp only at x0 x1
      have HB := hnx.alloc hnx.size (Obj.cells #[Value.int IntKind.i64 lo, Value.int IntKind.i64 hi] 46)
      have HE : Hid (RS.right s = (decide (last + 1 < lo) && decide (lo ≤ hi) && decide (hi ≤ 1114111) && RS.rightFrom hi (s.drop (k + 1)))) := by
        show _ = _
        rw [HR.out, HRK.out]; rfl
      clear HR HRK
      go_wp2
      case roundEnd => exact ⟨⟨k + 1, hi, by omega, by go_num, rfl, by omega, by omega, by rw [HE.out]; simp; omega, HB⟩, by simp [intOf]; omega⟩
      all_goals (go_ret; refine ⟨ret_bool ?_, HB⟩; rw [HE.out]; simp; omega)
    · go_wp2
      go_ret
      refine ⟨ret_bool ?_, hnx⟩
      rw [HR.out, List.drop_of_length_le (by omega)]
      rfl

set_option maxHeartbeats 1000000 in
set_option maxRecDepth 100000 in
theorem right_nil (ao : Option Addr) (cap : Nat) (w : World) :
    Calls Tryz.prog 15 #[.slice ao 0 cap] w fun e w' => e = .returned (.bool true) ∧ w' = w := by
  go_enter Tryz.func15, Tryz.ntmps15
  go_wp2_with fail
  refine wp_loop_rounds 1 ?_
  rw [rounds_succ]
  go_wp2_with fail
  go_ret
  exact ⟨rfl, rfl⟩

theorem right_any (v : Value) (s : List RS.Rg) (hlen : s.length ≤ 1000000) (w : World) (hv : RgAt w.heap.size w v s) :
    Calls Tryz.prog 15 #[v] w fun e w' => e = .returned (.bool (RS.right s)) ∧ Below w.heap.size w w' := by
  obtain ⟨ao, cap, rfl, _, h⟩ := hv
  by_cases hz : s = []
  · subst hz
    refine (right_nil ao cap w).mono ?_
    rintro e w' ⟨rfl, rfl⟩
    exact ⟨rfl, Below.refl _ _⟩
  · obtain ⟨b, off, rfl, hb, hc⟩ := h hz
    exact right_some b off cap s hlen w hb hc

end Go.Proofs.YtjbdlihlcoldlaaGreatDoor

namespace Go.Proofs.YtjbdlihlcoldlaaGreatDoor
open Go.RowKit

theorem owns_below {w w' : World} {base B : Nat} {e : TypeId} {size : Nat} {v : Value} {n : Nat} {xs : List Value} (h : w.ownsRow base e size v n xs) (hlt : ∀ g, v.ownBlock = some g → g < B) (hb : Below B w w') : w'.ownsRow base e size v n xs := by
  obtain ⟨h1, h2 | ⟨g, cap, cur, rfl, hg, hh, rest⟩⟩ := h
  · exact ⟨h1, Or.inl h2⟩
  · exact ⟨h1, Or.inr ⟨g, cap, cur, rfl, hg, (hb.block g (hlt g rfl)).trans hh, rest⟩⟩

theorem owns_later {w w' : World} {base : Nat} {e : TypeId} {size : Nat} {v : Value} {n : Nat} {xs : List Value} (h : w.ownsRow base e size v n xs) (hb : Below w.heap.size w w') : w'.ownsRow base e size v n xs :=
  owns_below h (fun g hg => (h.lt g hg).2) hb

/-- A range was appended: what there is now. -/
theorem app53 {w W w1 : World} {v v' : Value} {s : List RS.Rg} {r : RS.Rg} {B : Nat} (hb : Below B w W) (hB : B ≤ W.heap.size) (hown : W.ownsRow B 46 2 v s.length (flat2 s))
    (hown' : w1.ownsRow B 46 2 v' (s.length + 1) (flat2 s ++ cells2 r)) (hg : W.grownBy w1 v.ownBlock) :
    w1.ownsRow B 46 2 v' (s ++ [r]).length (flat2 (s ++ [r])) ∧ Below B w w1 ∧ ∀ j k, j < W.heap.size → W.ownsRow B 46 2 v s.length (flat2 s) → v.ownBlock ≠ some j → w1.cell? ⟨j, k, none⟩ = W.cell? ⟨j, k, none⟩ := by
  refine ⟨?_, ?_, ?_⟩
  · rw [flat2_snoc]; simpa using hown'
  · exact hb.grown hg hB (fun k hk => (hown.lt k hk).1)
  · intro j k hj _ hne
    exact World.cell?_of_block (w := W) (w' := w1) (a := ⟨j, k, none⟩) (hg.block j hj (fun e => hne e.symm))

theorem cells2_one (r : RS.Rg) : ∀ u ∈ cells2 r, u.oneCell' = true := by
  intro u hu; simp [cells2] at hu; rcases hu with rfl | rfl <;> rfl

theorem cells2_at {w : World} {b : Nat} {r : RS.Rg} (h0 : w.cell? ⟨b, 0, none⟩ = some (.int .i64 r.1)) (h1 : w.cell? ⟨b, 1, none⟩ = some (.int .i64 r.2)) : ∀ j u, (cells2 r)[j]? = some u → w.cell? ((⟨b, 0, none⟩ : Addr).add j) = some u := by
  intro j u hj
  match j, hj with
  | 0, hj => simp [cells2] at hj; subst hj; simpa [Addr.add] using h0
  | 1, hj => simp [cells2] at hj; subst hj; simpa [Addr.add] using h1
  | j + 2, hj => simp [cells2] at hj

end Go.Proofs.YtjbdlihlcoldlaaGreatDoor
