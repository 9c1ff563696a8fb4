/- The contracts of api.Tell, plain.Place and the law's 'is', at nil and at an At. -/
import Derived.Test.YtddjppkpgflbjaaDoorAsB
namespace Go.Proofs.YtddjppkpgflbjaaDoor
open Go.RowKit

/-- errors' own variable holds the type error. -/
def ET (w : World) : Prop := w.cell? ⟨0, 0, none⟩ = some (.iface 126 (.agg #[.pointer (some ⟨1, 36, none⟩)]))
theorem ET.below {w w' : World} {B : Nat} (h : ET w) (hb : Below B w w') (hB : 0 < B) : ET w' := (hb.cell (by exact hB)).trans h

set_option maxHeartbeats 1000000 in
theorem tell_nil (w : World) : Calls Tryd.prog 19 #[.nilIface] w fun e w' => e = .returned (.int .i64 0) ∧ w' = w := by
  go_enter Tryd.func19, Tryd.ntmps19
  go_wp2
  go_ret
  exact ⟨rfl, rfl⟩

set_option maxHeartbeats 1000000 in
theorem tell_at (g : Addr) (n : Int) (w : World) (hT : ET w) (hg : w.cell? g = some (.int .i64 n)) :
    Calls Tryd.prog 19 #[.iface 112 (.pointer (some g))] w fun e w' => e = .returned (.int .i64 n) ∧ Below w.heap.size w w' := by
  have hT2 := lt_cell hT
  have hgl := lt_cell hg
  simp only at hT2
  have HT : Hid (ET w) := hT
  clear hT
  go_enter Tryd.func19, Tryd.ntmps19
  go_wp2_with fail
  refine (as_hit g ⟨w.heap.size, 0, none⟩ n (.int .i64 0) _ (HT.out.below ((Below.refl w.heap.size w).alloc (Nat.le_refl _) _) hT2) (by rw [World.cell?_alloc_lt _ _ g hgl]; exact hg) (by simp) (by simp)).mono ?_
  rintro e w1 ⟨rfl, hc, hb⟩
  go_wp2_with fail
  go_ret
  exact ⟨rfl, ((Below.refl w.heap.size w).alloc (Nat.le_refl _) _).trans hb⟩

set_option maxHeartbeats 1000000 in
theorem place_nil (w : World) : Calls Tryd.prog 49 #[.nilIface] w fun e w' => e = .returned (.tuple #[.int .i64 0, .int .i64 (-1)]) ∧ w' = w := by
  go_enter Tryd.func49, Tryd.ntmps49
  go_wp2_with fail
  refine (tell_nil _).mono ?_
  rintro e w1 ⟨rfl, rfl⟩
  go_wp2_with fail
  refine wp_loop_rounds 1 ?_
  rw [rounds_succ]
  go_wp2_with fail
  go_ret2
  exact ⟨rfl, rfl⟩

theorem is52 (v : Value) (w : World) : (Instr.typeAssert (.iface 112 v) 36 112 true).run Tryd.prog w = .ok (.tuple #[v, .bool true]) w := by kernel_rfl

set_option maxHeartbeats 1000000 in
set_option maxRecDepth 100000 in
theorem place_at (g : Nat) (n k : Int) (w : World) (hT : ET w) (h0 : w.cell? ⟨g, 0, none⟩ = some (.int .i64 n)) (h1 : w.cell? ⟨g, 1, none⟩ = some (.int .i64 k)) :
    Calls Tryd.prog 49 #[.iface 112 (.pointer (some ⟨g, 0, none⟩))] w fun e w' => e = .returned (.tuple #[.int .i64 n, .int .i64 k]) ∧ Below w.heap.size w w' := by
  have hgl := lt_cell h1
  simp only at hgl
  have HT : Hid (ET w) := hT
  clear hT
  go_enter Tryd.func49, Tryd.ntmps49
  go_wp2_with fail
  refine (tell_at ⟨g, 0, none⟩ n _ HT.out h0).mono ?_
  rintro e w1 ⟨rfl, hb⟩
  have hk : w1.cell? ⟨g, 1, none⟩ = some (.int .i64 k) := (hb.cell (by exact hgl)).trans h1
  have i52 := is52
  go_wp2_with fail
  refine wp_loop_rounds 1 ?_
  rw [rounds_succ]
  go_wp2_with fail
  go_region
  all_goals go_wp2
  all_goals go_ret2
  all_goals exact ⟨rfl, hb.drew⟩

set_option maxHeartbeats 1000000 in
set_option maxRecDepth 100000 in
theorem is_nil (w : World) : Calls Tryd.prog 26 #[.nilIface, .agg #[.int .i64 0, .int .i64 (-1)]] w fun e w' => e = .returned (.bool true) ∧ Below w.heap.size w w' := by
  go_enter Tryd.func26, Tryd.ntmps26
  go_wp2_with fail
  refine (place_nil _).mono ?_
  rintro e w1 ⟨rfl, rfl⟩
  go_wp2_with fail
  go_ret
  exact ⟨rfl, (Below.refl _ _).alloc (Nat.le_refl _) _⟩

set_option maxHeartbeats 1000000 in
set_option maxRecDepth 100000 in
theorem is_at (g : Nat) (n k : Int) (w : World) (hT : ET w) (h0 : w.cell? ⟨g, 0, none⟩ = some (.int .i64 n)) (h1 : w.cell? ⟨g, 1, none⟩ = some (.int .i64 k)) :
    Calls Tryd.prog 26 #[.iface 112 (.pointer (some ⟨g, 0, none⟩)), .agg #[.int .i64 n, .int .i64 k]] w fun e w' => e = .returned (.bool true) ∧ Below w.heap.size w w' := by
  have hgl := lt_cell h1
  have hTl := lt_cell hT
  simp only at hgl hTl
  have HT : Hid (ET w) := hT
  clear hT
  have hb0 : Below w.heap.size w (w.alloc (.cells #[.int .i64 n, .int .i64 k] 65)) := (Below.refl _ _).alloc (Nat.le_refl _) _
  have HB0 : Hid _ := hb0
  clear hb0
  go_enter Tryd.func26, Tryd.ntmps26
  go_wp2_with fail
  refine (place_at g n k _ (HT.out.below HB0.out hTl) ((HB0.out.cell (by exact hgl)).trans h0) ((HB0.out.cell (by exact hgl)).trans h1)).mono ?_
  rintro e w1 ⟨rfl, hb1⟩
  have c0 : w1.cell? ⟨w.heap.size, 0, none⟩ = some (.int .i64 n) := by rw [hb1.cell (by simp)]; simp
  have c1 : w1.cell? ⟨w.heap.size, 1, none⟩ = some (.int .i64 k) := by rw [hb1.cell (by simp)]; simp
  have hb2 : Below w.heap.size w w1 := HB0.out.trans (hb1.mono (by simp))
  clear hb1
  go_wp2_with fail
  go_ret
  exact ⟨rfl, hb2⟩

end Go.Proofs.YtddjppkpgflbjaaDoor
