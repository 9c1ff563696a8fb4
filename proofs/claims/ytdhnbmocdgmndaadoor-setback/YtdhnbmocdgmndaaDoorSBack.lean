/- The walk of the statement SetBack. -/
import Derived.Test.YtdhnbmocdgmndaaDoorSRead
import Derived.Test.YtdhnbmocdgmndaaDoorSMerged
import Derived.Test.YtdhnbmocdgmndaaDoorSEq
namespace Go.Proofs.YtdhnbmocdgmndaaDoor
open Go.RowKit

set_option maxHeartbeats 1000000 in
set_option maxRecDepth 100000 in
theorem back_main (ao : Option Addr) (cap : Nat) (A : List RS.Rg) (s : ByteArray) (hA : A.length ≤ 20) (hs : s.size ≤ 300) (w : World) (hT : TZ w) (hE : EV w) (hM : ML w) (h8 : 8 < w.heap.size)
    (ha : RgAt w.heap.size w (.slice ao A.length cap) A) :
    Calls Tryd.prog 7 #[.slice ao A.length cap, .string s] w fun e w' => e = .returned (.bool true) ∧ Below w.heap.size w w' := by
  have hA' : (A.length : Int) ≤ 20 := by omega
  have hs' : (s.size : Int) ≤ 300 := by omega
  have HA : Hid (RgAt w.heap.size w (.slice ao A.length cap) A) := ha
  clear ha
  -- what comes behind the first question, from whatever world
  go_enter Tryd.func7, Tryd.ntmps7
  go_wp2_with fail
  refine (merged_any w hT h8).mono ?_
  rintro e W1 ⟨rfl, hb1⟩
  have hT1 := hT.below hb1 h8
  have hE1 := hE.below hb1 h8
  have hM1 := hM.below hb1 h8
  have h81 : 8 < W1.heap.size := by have := hb1.size; omega
  go_wp2_with fail
  refine (parse_all s (by omega) W1 hE1 hM1 hT1 h81).mono ?_
  rintro e W2 ⟨hp, hb2⟩
  have HB2 : Below w.heap.size w W2 := hb1.trans (hb2.mono hb1.size)
  have hT2 := hT1.below hb2 h81
  have hE2 := hE1.below hb2 h81
  have hM2 := hM1.below hb2 h81
  have h82 : 8 < W2.heap.size := by have := hb2.size; omega
  clear hT1 hE1 hM1 hT hE hM
  rcases hp with rfl | ⟨v, out, rfl, hol, hor, hot, hoo⟩
  · go_wp2_with fail
    refine (of_any _ A (by omega) W2 (HA.out.below HB2 _ HB2.size)).mono ?_
    rintro e W5 ⟨vx, X, rfl, hof, hxl, hxo, hb5⟩
    have hxr : RS.right X = true := hof.1
    have hT5 := hT2.below hb5 h82
    have hE5 := hE2.below hb5 h82
    have hM5 := hM2.below hb5 h82
    have h85 : 8 < W5.heap.size := by have := hb5.size; omega
    have HB5 : Below w.heap.size w W5 := HB2.trans (hb5.mono HB2.size)
    have hrx := rg_of_own hxo
    clear hof hxo
    go_wp2_with fail
    refine (print_any vx X (by omega) hxr W5 hT5 h85 hrx).mono ?_
    rintro e W6 ⟨rfl, hb6⟩
    have hT6 := hT5.below hb6 h85
    have hE6 := hE5.below hb6 h85
    have hM6 := hM5.below hb6 h85
    have h86 : 8 < W6.heap.size := by have := hb6.size; omega
    have HB6 : Below w.heap.size w W6 := HB5.trans (hb6.mono HB5.size)
    have hrx6 := hrx.below hb6 _ hb6.size
    go_wp2_with fail
    refine (parse_text X (by omega) hxr W6 hE6 hM6 hT6 h86).mono ?_
    rintro e W7 ⟨⟨vy, rfl, hyo⟩, hb7⟩
    have HB7 : Below w.heap.size w W7 := HB6.trans (hb7.mono HB6.size)
    have hrx7 := hrx6.below hb7 _ hb7.size
    have hry := rg_of_own hyo
    clear hyo
    go_wp2_with fail
    refine (equalR_any vy vx X (by omega) W7 hry hrx7).mono ?_
    rintro e W8 ⟨rfl, hb8⟩
    have HB8 : Below w.heap.size w W8 := HB7.trans (hb8.mono HB7.size)
    go_wp2_with fail
    go_ret
    exact ⟨rfl, HB8⟩
  · have hrg := rg_of_own hoo
    have HP : Calls Tryd.prog 34 #[v] W2 fun e w' => e = .returned (.string s) ∧ Below W2.heap.size W2 w' := by
      have := print_any v out (by omega) hor W2 hT2 h82 hrg
      rw [hot] at this
      exact this
    clear hot hoo
    go_wp2_with fail
    refine HP.mono ?_
    rintro e W3 ⟨rfl, hb3⟩
    clear HP
    have hrg3 := hrg.below hb3 _ hb3.size
    have HR : Calls Tryd.prog 23 #[v] W3 fun e w' => e = .returned (.bool true) ∧ Below W3.heap.size W3 w' := by
      have := right_any v out (by omega) W3 hrg3
      rw [hor] at this
      exact this
    have hT3 := hT2.below hb3 h82
    have hE3 := hE2.below hb3 h82
    have hM3 := hM2.below hb3 h82
    have h83 : 8 < W3.heap.size := by have := hb3.size; omega
    have HB3 : Below w.heap.size w W3 := HB2.trans (hb3.mono HB2.size)
    clear hor
    go_wp2_with fail
    refine HR.mono ?_
    rintro e W4 ⟨rfl, hb4⟩
    clear HR
    have hT4 := hT3.below hb4 h83
    have hE4 := hE3.below hb4 h83
    have hM4 := hM3.below hb4 h83
    have h84 : 8 < W4.heap.size := by have := hb4.size; omega
    have HB4 : Below w.heap.size w W4 := HB3.trans (hb4.mono HB3.size)
    go_wp2_with fail
    refine (of_any _ A (by omega) W4 (HA.out.below HB4 _ HB4.size)).mono ?_
    rintro e W5 ⟨vx, X, rfl, hof, hxl, hxo, hb5⟩
    have hxr : RS.right X = true := hof.1
    have hT5 := hT4.below hb5 h84
    have hE5 := hE4.below hb5 h84
    have hM5 := hM4.below hb5 h84
    have h85 : 8 < W5.heap.size := by have := hb5.size; omega
    have HB5 : Below w.heap.size w W5 := HB4.trans (hb5.mono HB4.size)
    have hrx := rg_of_own hxo
    clear hof hxo
    go_wp2_with fail
    refine (print_any vx X (by omega) hxr W5 hT5 h85 hrx).mono ?_
    rintro e W6 ⟨rfl, hb6⟩
    have hT6 := hT5.below hb6 h85
    have hE6 := hE5.below hb6 h85
    have hM6 := hM5.below hb6 h85
    have h86 : 8 < W6.heap.size := by have := hb6.size; omega
    have HB6 : Below w.heap.size w W6 := HB5.trans (hb6.mono HB5.size)
    have hrx6 := hrx.below hb6 _ hb6.size
    go_wp2_with fail
    refine (parse_text X (by omega) hxr W6 hE6 hM6 hT6 h86).mono ?_
    rintro e W7 ⟨⟨vy, rfl, hyo⟩, hb7⟩
    have HB7 : Below w.heap.size w W7 := HB6.trans (hb7.mono HB6.size)
    have hrx7 := hrx6.below hb7 _ hb7.size
    have hry := rg_of_own hyo
    clear hyo
    go_wp2_with fail
    refine (equalR_any vy vx X (by omega) W7 hry hrx7).mono ?_
    rintro e W8 ⟨rfl, hb8⟩
    have HB8 : Below w.heap.size w W8 := HB7.trans (hb8.mono HB7.size)
    go_wp2_with fail
    go_ret
    exact ⟨rfl, HB8⟩

end Go.Proofs.YtdhnbmocdgmndaaDoor
