/- The law's own fact on sets: caesurakeep.merged says yes. -/
import Derived.Test.YtdhnbmocdgmndaaDoorSEq
import Derived.Test.YtdhnbmocdgmndaaDoorSPrint
namespace Go.Proofs.YtdhnbmocdgmndaaDoor
open Go.RowKit

def fact : List RS.Rg := [(102, 122), (97, 101), (9, 3), (-5, 0)]
def told : List RS.Rg := [(0, 0), (97, 122)]

theorem fact_of : RS.IsOf fact told := by
  refine ⟨by decide, fun p => ?_⟩
  unfold fact told RS.mem
  simp
  omega

theorem told_right : RS.right told = true := by decide
theorem told_has1 : RS.has told 113 = true := by decide
theorem told_has2 : RS.has told 65 = false := by decide
theorem told_text : bytesOf (RS.setText told) = ⟨#[91, 48, 32, 54, 49, 45, 55, 97, 93]⟩ := by kernel_rfl
theorem told_not : RS.notL (RS.notL told) = told := by decide
theorem told_nr : RS.right (RS.notL told) = true := by decide

theorem fact_at (w : World) : RgAt (w.heap.size + 1) (w.alloc (.cells #[.int .i64 102, .int .i64 122, .int .i64 97, .int .i64 101, .int .i64 9, .int .i64 3, .int .i64 (-5), .int .i64 0] 53)) (.slice (some ⟨w.heap.size, 0, none⟩) 4 4) fact := by
  refine ⟨some ⟨w.heap.size, 0, none⟩, 4, rfl, ⟨by decide, fun h => by cases h⟩, fun _ => ⟨w.heap.size, 0, rfl, by omega, fun k hk => ?_⟩⟩
  match k, hk with
  | 0, _ => exact ⟨by simp [fact], by simp [fact]⟩
  | 1, _ => exact ⟨by simp [fact], by simp [fact]⟩
  | 2, _ => exact ⟨by simp [fact], by simp [fact]⟩
  | 3, _ => exact ⟨by simp [fact], by simp [fact]⟩

set_option maxHeartbeats 2000000 in
set_option maxRecDepth 100000 in
theorem merged_any (w : World) (hTZ : TZ w) (hw8 : 8 < w.heap.size) :
    Calls Tryd.prog 20 #[] w fun e w' => e = .returned (.bool true) ∧ Below w.heap.size w w' := by
  have h0 := fun o => (Below.refl _ w).alloc (Nat.le_refl w.heap.size) o
  have hof := of_any (.slice (some ⟨w.heap.size, 0, none⟩) 4 4) fact (by decide) (w.alloc (.cells #[.int .i64 102, .int .i64 122, .int .i64 97, .int .i64 101, .int .i64 9, .int .i64 3, .int .i64 (-5), .int .i64 0] 53)) (by rw [World.size_alloc]; exact fact_at w)
  go_enter Tryd.func20, Tryd.ntmps20
  go_wp2_with fail
  refine hof.mono ?_
  rintro e w1 ⟨v, s, rfl, hs, _, hown, hb1⟩
  obtain rfl : s = told := hs.unique fact_of
  have hb2 := (h0 _).trans (hb1.mono (by simp))
  have HR : Hid (RgAt w1.heap.size w1 v told) := rg_of_own hown
  clear hs hown hb1 hof h0
  have hs1 := hb2.size
  go_wp2_with fail
  refine (print_any v told (by decide) told_right _ (hTZ.below hb2 hw8) (by omega) HR.out).mono ?_
  rintro e w2 ⟨rfl, hb3⟩
  rw [told_text]
  have hb4 := hb2.trans (hb3.mono hs1)
  have HR2 : Hid (RgAt w2.heap.size w2 v told) := HR.out.below hb3 _ hb3.size
  have hs2 := hb4.size
  clear hb3 HR
  go_wp2_with fail
  refine (has_any v told 113 (by decide) told_right _ HR2.out).mono ?_
  rintro e w3 ⟨rfl, hb5⟩
  rw [told_has1]
  have hb6 := hb4.trans (hb5.mono hs2)
  have HR3 : Hid (RgAt w3.heap.size w3 v told) := HR2.out.below hb5 _ hb5.size
  have hs3 := hb6.size
  clear hb5 HR2
  go_wp2_with fail
  refine (has_any v told 65 (by decide) told_right _ HR3.out).mono ?_
  rintro e w4 ⟨rfl, hb7⟩
  rw [told_has2]
  have hb8 := hb6.trans (hb7.mono hs3)
  have HR4 : Hid (RgAt w4.heap.size w4 v told) := HR3.out.below hb7 _ hb7.size
  have hs4 := hb8.size
  clear hb7 HR3
  go_wp2_with fail
  refine (not_any v told (by decide) _ HR4.out told_right).mono ?_
  rintro e w5 ⟨v5, rfl, hown5, hb9⟩
  have hb10 := hb8.trans (hb9.mono hs4)
  have HR5 : Hid (RgAt w5.heap.size w5 v5 (RS.notL told)) := rg_of_own hown5
  have hs5 := hb10.size
  clear hb9 HR4 hown5
  go_wp2_with fail
  refine (not_any v5 (RS.notL told) (by decide) _ HR5.out told_nr).mono ?_
  rintro e w6 ⟨v6, rfl, hown6, hb11⟩
  rw [told_not] at hown6
  have hb12 := hb10.trans (hb11.mono hs5)
  have HR6 : Hid (RgAt w6.heap.size w6 v6 told) := rg_of_own hown6
  have hs6 := hb12.size
  clear hb11 HR5 hown6
  go_wp2_with fail
  refine (print_any v6 told (by decide) told_right _ (hTZ.below hb12 hw8) (by omega) HR6.out).mono ?_
  rintro e w7 ⟨rfl, hb13⟩
  rw [told_text]
  have hb14 := hb12.trans (hb13.mono hs6)
  clear hb13
  go_wp2_with fail
  go_ret
  exact ⟨rfl, hb14⟩

end Go.Proofs.YtdhnbmocdgmndaaDoor
