/- The contracts of appendTimes and wrapped. -/
import Derived.Test.YtjbmdnkpfkelmaaGreatDoorPriAB
import Derived.Lib.ItoaLen
namespace Go.Proofs.YtjbmdnkpfkelmaaGreatDoor.Q
open Go.RowKit Go.Shelf

theorem ai_any {W0 : World} {v : Value} {xs : List UInt8} {w : World} (i : Int) (h0 : 0 ≤ i) (h1 : i ≤ 12) (hP : PT W0) (hB : Buf W0 v xs w) (hl : xs.length ≤ 1000000) :
    Calls Tryz.prog 45 #[v, .int .i64 i, .int .i64 10] w (Out W0 xs (Lib.itoa i) w) := by
  have h := Any.strconv_AppendInt_10 Tryz.aiL W0.heap.size xs.length i (by omega) (by omega) v (Lib.byteCells xs) w hB.1 hB.2.1.size (by omega) ((Lib.tabBelow_of_tabIs hP.2).on hB.2.1)
  refine Calls.mono h ?_
  rintro e w' ⟨v', rfl, k1, k2, k3⟩
  refine ⟨v', rfl, ⟨?_, hB.2.1.trans k2, hB.2.2.trans k3⟩, k3⟩
  rw [Lib.byteCells_append, List.length_append]
  exact k1

set_option maxHeartbeats 1000000 in
set_option maxRecDepth 100000 in
theorem times_star (hi : Int) (h : hi < 0) {W0 : World} {v : Value} {xs : List UInt8} {w : World} (hB : Buf W0 v xs w) (hl : xs.length ≤ 1000000) :
    Calls Tryz.prog 55 #[v, .int .i64 0, .int .i64 hi] w (Out W0 xs [42] w) := by
  obtain ⟨ao, n, cp, rfl, -⟩ := hB.slice
  obtain ⟨v1, w1, hr1, hB1, hO1⟩ := hB.byte 41 42 (by omega)
  obtain ⟨ao1, n1, cp1, rfl, -⟩ := hB1.slice
  have HR1 : Hid ((Builtin.append_ #[41, 41] 41 #[.slice ao n cp, .slice (some ⟨w.heap.size, 0, none⟩) 1 1]).run Tryz.prog (w.alloc (.cells #[.int .u8 42] 5)) = .ok (.slice ao1 n1 cp1) w1) := hr1
  have HB1 : Hid (Buf W0 (.slice ao1 n1 cp1) (xs ++ [42]) w1 ∧ Lib.OthersKept 5 none w w1) := ⟨hB1, hO1⟩
  clear hB hl hr1 hB1 hO1
  go_enter Tryz.func55, Tryz.ntmps55
  go_wp2_with (at_builtin; refine Lib.wpList_append_run _ rfl _ _ _ _ rfl _ _ rfl rfl _ _ HR1.out ?_)
  clear HR1
  go_wp2_with fail
  go_ret
  exact ⟨_, rfl, HB1.out⟩

set_option maxHeartbeats 1000000 in
set_option maxRecDepth 100000 in
theorem times_plus (hi : Int) (h : hi < 0) {W0 : World} {v : Value} {xs : List UInt8} {w : World} (hB : Buf W0 v xs w) (hl : xs.length ≤ 1000000) :
    Calls Tryz.prog 55 #[v, .int .i64 1, .int .i64 hi] w (Out W0 xs [43] w) := by
  obtain ⟨ao, n, cp, rfl, -⟩ := hB.slice
  obtain ⟨v1, w1, hr1, hB1, hO1⟩ := hB.byte 41 43 (by omega)
  obtain ⟨ao1, n1, cp1, rfl, -⟩ := hB1.slice
  have HR1 : Hid ((Builtin.append_ #[41, 41] 41 #[.slice ao n cp, .slice (some ⟨w.heap.size, 0, none⟩) 1 1]).run Tryz.prog (w.alloc (.cells #[.int .u8 43] 5)) = .ok (.slice ao1 n1 cp1) w1) := hr1
  have HB1 : Hid (Buf W0 (.slice ao1 n1 cp1) (xs ++ [43]) w1 ∧ Lib.OthersKept 5 none w w1) := ⟨hB1, hO1⟩
  clear hB hl hr1 hB1 hO1
  go_enter Tryz.func55, Tryz.ntmps55
  go_wp2_with (at_builtin; refine Lib.wpList_append_run _ rfl _ _ _ _ rfl _ _ rfl rfl _ _ HR1.out ?_)
  clear HR1
  go_wp2_with fail
  go_ret
  exact ⟨_, rfl, HB1.out⟩

set_option maxHeartbeats 1000000 in
set_option maxRecDepth 100000 in
theorem times_opt (hi : Int) (h : hi = 1) {W0 : World} {v : Value} {xs : List UInt8} {w : World} (hB : Buf W0 v xs w) (hl : xs.length ≤ 1000000) :
    Calls Tryz.prog 55 #[v, .int .i64 0, .int .i64 hi] w (Out W0 xs [63] w) := by
  subst h
  obtain ⟨ao, n, cp, rfl, -⟩ := hB.slice
  obtain ⟨v1, w1, hr1, hB1, hO1⟩ := hB.byte 41 63 (by omega)
  obtain ⟨ao1, n1, cp1, rfl, -⟩ := hB1.slice
  have HR1 : Hid ((Builtin.append_ #[41, 41] 41 #[.slice ao n cp, .slice (some ⟨w.heap.size, 0, none⟩) 1 1]).run Tryz.prog (w.alloc (.cells #[.int .u8 63] 5)) = .ok (.slice ao1 n1 cp1) w1) := hr1
  have HB1 : Hid (Buf W0 (.slice ao1 n1 cp1) (xs ++ [63]) w1 ∧ Lib.OthersKept 5 none w w1) := ⟨hB1, hO1⟩
  clear hB hl hr1 hB1 hO1
  go_enter Tryz.func55, Tryz.ntmps55
  go_wp2_with (at_builtin; refine Lib.wpList_append_run _ rfl _ _ _ _ rfl _ _ rfl rfl _ _ HR1.out ?_)
  clear HR1
  go_wp2_with fail
  go_ret
  exact ⟨_, rfl, HB1.out⟩

set_option maxHeartbeats 2000000 in
set_option maxRecDepth 100000 in
theorem times_0eq (lo hi : Int) (h0 : 0 ≤ lo) (h12 : lo ≤ 12) (hh : hi ≤ 12) (hlo : lo = 0) (heq : hi = lo) {W0 : World} {v : Value} {xs : List UInt8} {w : World} (hP : PT W0) (hB : Buf W0 v xs w) (hl : xs.length + 60 ≤ 1000000) :
    Calls Tryz.prog 55 #[v, .int .i64 lo, .int .i64 hi] w (Out W0 xs (123 :: (Lib.itoa lo ++ [] ++ [125])) w) := by
  subst hlo heq
  obtain ⟨ao, n, cp, rfl, -⟩ := hB.slice
  have hil := Lib.itoa_length_le 0 (by omega) (by omega)
  obtain ⟨v1, w1, hr1, hB1, hO1⟩ := hB.byte 41 123 (by omega)
  obtain ⟨ao1, n1, cp1, rfl, -⟩ := hB1.slice
  have HR1 : Hid ((Builtin.append_ #[41, 41] 41 #[.slice ao n cp, .slice (some ⟨w.heap.size, 0, none⟩) 1 1]).run Tryz.prog (w.alloc (.cells #[.int .u8 123] 5)) = .ok (.slice ao1 n1 cp1) w1) := hr1
  have hC := ai_any 0 (by omega) (by omega) hP hB1 (by simp; omega)
  have HL : Hid ((xs ++ [123] ++ Lib.itoa 0).length + 36 ≤ 1000000) := by show _ ≤ _; simp only [List.length_append, List.length_cons, List.length_nil]; omega
  have HP : Hid (PT W0) := hP
  have HO1 : Hid (Lib.OthersKept 5 none w w1) := hO1
  clear hB hl hr1 hB1 hO1 hP hil
  generalize Lib.itoa 0 = TL at hC HL ⊢
  go_enter Tryz.func55, Tryz.ntmps55
  go_wp2_with (at_builtin; refine Lib.wpList_append_run _ rfl _ _ _ _ rfl _ _ rfl rfl _ _ HR1.out ?_)
  clear HR1
  go_wp2_with fail
  refine hC.mono ?_
  rintro e w2 ⟨v2, rfl, hB2, hO2⟩
  obtain ⟨ao2, n2, cp2, rfl, -⟩ := hB2.slice
  clear hC
  obtain ⟨v9, w9, hr9, hB9, hO9⟩ := hB2.byte 41 125 (by have := HL.out; omega)
  obtain ⟨ao9, n9, cp9, rfl, -⟩ := hB9.slice
  have HR9 : Hid ((Builtin.append_ #[41, 41] 41 #[.slice ao2 n2 cp2, .slice (some ⟨w2.heap.size, 0, none⟩) 1 1]).run Tryz.prog (w2.alloc (.cells #[.int .u8 125] 5)) = .ok (.slice ao9 n9 cp9) w9) := hr9
  have HB9 : Hid (Buf W0 (.slice ao9 n9 cp9) (xs ++ 123 :: (TL ++ [] ++ [125])) w9 ∧ Lib.OthersKept 5 none w w9) := by
    have e : xs ++ 123 :: (TL ++ [] ++ [125]) = xs ++ [123] ++ TL ++ [125] := by simp
    rw [e]
    exact ⟨hB9, (HO1.out.trans hO2).trans hO9⟩
  clear hr9 hB9 hO9 hB2 hO2 HO1 HL HP
  go_wp2_with (at_builtin; refine Lib.wpList_append_run _ rfl _ _ _ _ rfl _ _ rfl rfl _ _ HR9.out ?_)
  clear HR9
  go_wp2_with fail
  go_ret
  exact ⟨_, rfl, HB9.out⟩

set_option maxHeartbeats 2000000 in
set_option maxRecDepth 100000 in
theorem times_0pos (lo hi : Int) (h0 : 0 ≤ lo) (h12 : lo ≤ 12) (hh : hi ≤ 12) (hlo : lo = 0) (hne : hi ≠ lo) (hp : 0 ≤ hi) (h1 : hi ≠ 1) {W0 : World} {v : Value} {xs : List UInt8} {w : World} (hP : PT W0) (hB : Buf W0 v xs w) (hl : xs.length + 60 ≤ 1000000) :
    Calls Tryz.prog 55 #[v, .int .i64 lo, .int .i64 hi] w (Out W0 xs (123 :: (Lib.itoa lo ++ (44 :: Lib.itoa hi) ++ [125])) w) := by
  subst hlo
  have q1 : (hi == 1) = false := by simp; omega
  have q2 : ¬ hi = 1 := by omega
  have q3 : ¬ hi < 0 := by omega
  have n1 : (hi != 0) = true := by simp; omega
  have n2 : ¬ hi = 0 := by omega
  obtain ⟨ao, n, cp, rfl, -⟩ := hB.slice
  have hil := Lib.itoa_length_le 0 (by omega) (by omega)
  have HIL : Hid ((Lib.itoa hi).length ≤ 21) := Lib.itoa_length_le hi (by omega) (by omega)
  obtain ⟨v1, w1, hr1, hB1, hO1⟩ := hB.byte 41 123 (by omega)
  obtain ⟨ao1, n1, cp1, rfl, -⟩ := hB1.slice
  have HR1 : Hid ((Builtin.append_ #[41, 41] 41 #[.slice ao n cp, .slice (some ⟨w.heap.size, 0, none⟩) 1 1]).run Tryz.prog (w.alloc (.cells #[.int .u8 123] 5)) = .ok (.slice ao1 n1 cp1) w1) := hr1
  have hC := ai_any 0 (by omega) (by omega) hP hB1 (by simp; omega)
  have HL : Hid ((xs ++ [123] ++ Lib.itoa 0).length + 36 ≤ 1000000) := by show _ ≤ _; simp only [List.length_append, List.length_cons, List.length_nil]; omega
  have HP : Hid (PT W0) := hP
  have HO1 : Hid (Lib.OthersKept 5 none w w1) := hO1
  clear hB hl hr1 hB1 hO1 hP hil
  generalize Lib.itoa 0 = TL at hC HL ⊢
  go_enter Tryz.func55, Tryz.ntmps55
  go_wp2_with (at_builtin; refine Lib.wpList_append_run _ rfl _ _ _ _ rfl _ _ rfl rfl _ _ HR1.out ?_)
  clear HR1
  go_wp2_with fail
  refine hC.mono ?_
  rintro e w2 ⟨v2, rfl, hB2, hO2⟩
  obtain ⟨ao2, n2, cp2, rfl, -⟩ := hB2.slice
  clear hC
  obtain ⟨v3, w3, hr3, hB3, hO3⟩ := hB2.byte 41 44 (by have := HL.out; omega)
  obtain ⟨ao3, n3, cp3, rfl, -⟩ := hB3.slice
  have HR3 : Hid ((Builtin.append_ #[41, 41] 41 #[.slice ao2 n2 cp2, .slice (some ⟨w2.heap.size, 0, none⟩) 1 1]).run Tryz.prog (w2.alloc (.cells #[.int .u8 44] 5)) = .ok (.slice ao3 n3 cp3) w3) := hr3
  have HB3 : Hid (Buf W0 (.slice ao3 n3 cp3) (xs ++ [123] ++ TL ++ [44]) w3 ∧ Lib.OthersKept 5 none w w3) := ⟨hB3, (HO1.out.trans hO2).trans hO3⟩
  clear hr3 hB3 hO3 hB2 hO2 HO1
  go_wp2_with (at_builtin; refine Lib.wpList_append_run _ rfl _ _ _ _ rfl _ _ rfl rfl _ _ HR3.out ?_)
  clear HR3
  have hD := ai_any hi hp hh HP.out HB3.out.1 (by have := HL.out; simp only [List.length_append, List.length_cons, List.length_nil] at this ⊢; omega)
  have HO3 : Hid (Lib.OthersKept 5 none w w3) := HB3.out.2
  have HL2 : Hid ((xs ++ [123] ++ TL ++ [44] ++ Lib.itoa hi).length + 10 ≤ 1000000) := by have := HL.out; have := HIL.out; show _ ≤ _; simp only [List.length_append, List.length_cons, List.length_nil] at *; omega
  clear HB3 HP
  go_wp2_with fail
  refine hD.mono ?_
  rintro e w4 ⟨v4, rfl, hB4, hO4⟩
  obtain ⟨ao4, n4, cp4, rfl, -⟩ := hB4.slice
  clear hD
  obtain ⟨v9, w9, hr9, hB9, hO9⟩ := hB4.byte 41 125 (by have := HL.out; have := HL2.out; omega)
  obtain ⟨ao9, n9, cp9, rfl, -⟩ := hB9.slice
  have HR9 : Hid ((Builtin.append_ #[41, 41] 41 #[.slice ao4 n4 cp4, .slice (some ⟨w4.heap.size, 0, none⟩) 1 1]).run Tryz.prog (w4.alloc (.cells #[.int .u8 125] 5)) = .ok (.slice ao9 n9 cp9) w9) := hr9
  have HB9 : Hid (Buf W0 (.slice ao9 n9 cp9) (xs ++ 123 :: (TL ++ (44 :: Lib.itoa hi) ++ [125])) w9 ∧ Lib.OthersKept 5 none w w9) := by
    have e : xs ++ 123 :: (TL ++ (44 :: Lib.itoa hi) ++ [125]) = xs ++ [123] ++ TL ++ [44] ++ Lib.itoa hi ++ [125] := by simp
    rw [e]
    exact ⟨hB9, (HO3.out.trans hO4).trans hO9⟩
  clear hr9 hB9 hO9 hB4 hO4 HO3 HL HL2
  go_wp2_with (at_builtin; refine Lib.wpList_append_run _ rfl _ _ _ _ rfl _ _ rfl rfl _ _ HR9.out ?_)
  clear HR9
  go_wp2_with fail
  go_ret
  exact ⟨_, rfl, HB9.out⟩

set_option maxHeartbeats 2000000 in
set_option maxRecDepth 100000 in
theorem times_1eq (lo hi : Int) (h0 : 0 ≤ lo) (h12 : lo ≤ 12) (hh : hi ≤ 12) (hlo : lo = 1) (heq : hi = lo) {W0 : World} {v : Value} {xs : List UInt8} {w : World} (hP : PT W0) (hB : Buf W0 v xs w) (hl : xs.length + 60 ≤ 1000000) :
    Calls Tryz.prog 55 #[v, .int .i64 lo, .int .i64 hi] w (Out W0 xs (123 :: (Lib.itoa lo ++ [] ++ [125])) w) := by
  subst hlo heq
  obtain ⟨ao, n, cp, rfl, -⟩ := hB.slice
  have hil := Lib.itoa_length_le 1 (by omega) (by omega)
  obtain ⟨v1, w1, hr1, hB1, hO1⟩ := hB.byte 41 123 (by omega)
  obtain ⟨ao1, n1, cp1, rfl, -⟩ := hB1.slice
  have HR1 : Hid ((Builtin.append_ #[41, 41] 41 #[.slice ao n cp, .slice (some ⟨w.heap.size, 0, none⟩) 1 1]).run Tryz.prog (w.alloc (.cells #[.int .u8 123] 5)) = .ok (.slice ao1 n1 cp1) w1) := hr1
  have hC := ai_any 1 (by omega) (by omega) hP hB1 (by simp; omega)
  have HL : Hid ((xs ++ [123] ++ Lib.itoa 1).length + 36 ≤ 1000000) := by show _ ≤ _; simp only [List.length_append, List.length_cons, List.length_nil]; omega
  have HP : Hid (PT W0) := hP
  have HO1 : Hid (Lib.OthersKept 5 none w w1) := hO1
  clear hB hl hr1 hB1 hO1 hP hil
  generalize Lib.itoa 1 = TL at hC HL ⊢
  go_enter Tryz.func55, Tryz.ntmps55
  go_wp2_with (at_builtin; refine Lib.wpList_append_run _ rfl _ _ _ _ rfl _ _ rfl rfl _ _ HR1.out ?_)
  clear HR1
  go_wp2_with fail
  refine hC.mono ?_
  rintro e w2 ⟨v2, rfl, hB2, hO2⟩
  obtain ⟨ao2, n2, cp2, rfl, -⟩ := hB2.slice
  clear hC
  obtain ⟨v9, w9, hr9, hB9, hO9⟩ := hB2.byte 41 125 (by have := HL.out; omega)
  obtain ⟨ao9, n9, cp9, rfl, -⟩ := hB9.slice
  have HR9 : Hid ((Builtin.append_ #[41, 41] 41 #[.slice ao2 n2 cp2, .slice (some ⟨w2.heap.size, 0, none⟩) 1 1]).run Tryz.prog (w2.alloc (.cells #[.int .u8 125] 5)) = .ok (.slice ao9 n9 cp9) w9) := hr9
  have HB9 : Hid (Buf W0 (.slice ao9 n9 cp9) (xs ++ 123 :: (TL ++ [] ++ [125])) w9 ∧ Lib.OthersKept 5 none w w9) := by
    have e : xs ++ 123 :: (TL ++ [] ++ [125]) = xs ++ [123] ++ TL ++ [125] := by simp
    rw [e]
    exact ⟨hB9, (HO1.out.trans hO2).trans hO9⟩
  clear hr9 hB9 hO9 hB2 hO2 HO1 HL HP
  go_wp2_with (at_builtin; refine Lib.wpList_append_run _ rfl _ _ _ _ rfl _ _ rfl rfl _ _ HR9.out ?_)
  clear HR9
  go_wp2_with fail
  go_ret
  exact ⟨_, rfl, HB9.out⟩

set_option maxHeartbeats 2000000 in
set_option maxRecDepth 100000 in
theorem times_1pos (lo hi : Int) (h0 : 0 ≤ lo) (h12 : lo ≤ 12) (hh : hi ≤ 12) (hlo : lo = 1) (hne : hi ≠ lo) (hp : 0 ≤ hi) {W0 : World} {v : Value} {xs : List UInt8} {w : World} (hP : PT W0) (hB : Buf W0 v xs w) (hl : xs.length + 60 ≤ 1000000) :
    Calls Tryz.prog 55 #[v, .int .i64 lo, .int .i64 hi] w (Out W0 xs (123 :: (Lib.itoa lo ++ (44 :: Lib.itoa hi) ++ [125])) w) := by
  subst hlo
  have q3 : ¬ hi < 0 := by omega
  have n1 : (hi != 1) = true := by simp; omega
  have n2 : ¬ hi = 1 := by omega
  obtain ⟨ao, n, cp, rfl, -⟩ := hB.slice
  have hil := Lib.itoa_length_le 1 (by omega) (by omega)
  have HIL : Hid ((Lib.itoa hi).length ≤ 21) := Lib.itoa_length_le hi (by omega) (by omega)
  obtain ⟨v1, w1, hr1, hB1, hO1⟩ := hB.byte 41 123 (by omega)
  obtain ⟨ao1, n1, cp1, rfl, -⟩ := hB1.slice
  have HR1 : Hid ((Builtin.append_ #[41, 41] 41 #[.slice ao n cp, .slice (some ⟨w.heap.size, 0, none⟩) 1 1]).run Tryz.prog (w.alloc (.cells #[.int .u8 123] 5)) = .ok (.slice ao1 n1 cp1) w1) := hr1
  have hC := ai_any 1 (by omega) (by omega) hP hB1 (by simp; omega)
  have HL : Hid ((xs ++ [123] ++ Lib.itoa 1).length + 36 ≤ 1000000) := by show _ ≤ _; simp only [List.length_append, List.length_cons, List.length_nil]; omega
  have HP : Hid (PT W0) := hP
  have HO1 : Hid (Lib.OthersKept 5 none w w1) := hO1
  clear hB hl hr1 hB1 hO1 hP hil
  generalize Lib.itoa 1 = TL at hC HL ⊢
  go_enter Tryz.func55, Tryz.ntmps55
  go_wp2_with (at_builtin; refine Lib.wpList_append_run _ rfl _ _ _ _ rfl _ _ rfl rfl _ _ HR1.out ?_)
  clear HR1
  go_wp2_with fail
  refine hC.mono ?_
  rintro e w2 ⟨v2, rfl, hB2, hO2⟩
  obtain ⟨ao2, n2, cp2, rfl, -⟩ := hB2.slice
  clear hC
  obtain ⟨v3, w3, hr3, hB3, hO3⟩ := hB2.byte 41 44 (by have := HL.out; omega)
  obtain ⟨ao3, n3, cp3, rfl, -⟩ := hB3.slice
  have HR3 : Hid ((Builtin.append_ #[41, 41] 41 #[.slice ao2 n2 cp2, .slice (some ⟨w2.heap.size, 0, none⟩) 1 1]).run Tryz.prog (w2.alloc (.cells #[.int .u8 44] 5)) = .ok (.slice ao3 n3 cp3) w3) := hr3
  have HB3 : Hid (Buf W0 (.slice ao3 n3 cp3) (xs ++ [123] ++ TL ++ [44]) w3 ∧ Lib.OthersKept 5 none w w3) := ⟨hB3, (HO1.out.trans hO2).trans hO3⟩
  clear hr3 hB3 hO3 hB2 hO2 HO1
  go_wp2_with (at_builtin; refine Lib.wpList_append_run _ rfl _ _ _ _ rfl _ _ rfl rfl _ _ HR3.out ?_)
  clear HR3
  have hD := ai_any hi hp hh HP.out HB3.out.1 (by have := HL.out; simp only [List.length_append, List.length_cons, List.length_nil] at this ⊢; omega)
  have HO3 : Hid (Lib.OthersKept 5 none w w3) := HB3.out.2
  have HL2 : Hid ((xs ++ [123] ++ TL ++ [44] ++ Lib.itoa hi).length + 10 ≤ 1000000) := by have := HL.out; have := HIL.out; show _ ≤ _; simp only [List.length_append, List.length_cons, List.length_nil] at *; omega
  clear HB3 HP
  go_wp2_with fail
  refine hD.mono ?_
  rintro e w4 ⟨v4, rfl, hB4, hO4⟩
  obtain ⟨ao4, n4, cp4, rfl, -⟩ := hB4.slice
  clear hD
  obtain ⟨v9, w9, hr9, hB9, hO9⟩ := hB4.byte 41 125 (by have := HL.out; have := HL2.out; omega)
  obtain ⟨ao9, n9, cp9, rfl, -⟩ := hB9.slice
  have HR9 : Hid ((Builtin.append_ #[41, 41] 41 #[.slice ao4 n4 cp4, .slice (some ⟨w4.heap.size, 0, none⟩) 1 1]).run Tryz.prog (w4.alloc (.cells #[.int .u8 125] 5)) = .ok (.slice ao9 n9 cp9) w9) := hr9
  have HB9 : Hid (Buf W0 (.slice ao9 n9 cp9) (xs ++ 123 :: (TL ++ (44 :: Lib.itoa hi) ++ [125])) w9 ∧ Lib.OthersKept 5 none w w9) := by
    have e : xs ++ 123 :: (TL ++ (44 :: Lib.itoa hi) ++ [125]) = xs ++ [123] ++ TL ++ [44] ++ Lib.itoa hi ++ [125] := by simp
    rw [e]
    exact ⟨hB9, (HO3.out.trans hO4).trans hO9⟩
  clear hr9 hB9 hO9 hB4 hO4 HO3 HL HL2
  go_wp2_with (at_builtin; refine Lib.wpList_append_run _ rfl _ _ _ _ rfl _ _ rfl rfl _ _ HR9.out ?_)
  clear HR9
  go_wp2_with fail
  go_ret
  exact ⟨_, rfl, HB9.out⟩

set_option maxHeartbeats 2000000 in
set_option maxRecDepth 100000 in
theorem times_veq (lo hi : Int) (h0 : 0 ≤ lo) (h12 : lo ≤ 12) (_hh : hi ≤ 12) (hlo : 2 ≤ lo) (heq : hi = lo) {W0 : World} {v : Value} {xs : List UInt8} {w : World} (hP : PT W0) (hB : Buf W0 v xs w) (hl : xs.length + 60 ≤ 1000000) :
    Calls Tryz.prog 55 #[v, .int .i64 lo, .int .i64 hi] w (Out W0 xs (123 :: (Lib.itoa lo ++ [] ++ [125])) w) := by
  have q1 : (lo == 0) = false := by simp; omega
  have q2 : (lo == 1) = false := by simp; omega
  have q3 : ¬ lo = 0 := by omega
  have q4 : ¬ lo = 1 := by omega
  have n1 : (hi != lo) = false := by simp [heq]
  have n2 : hi = lo := heq
  clear n2 heq
  obtain ⟨ao, n, cp, rfl, -⟩ := hB.slice
  have hil := Lib.itoa_length_le lo (by omega) (by omega)
  obtain ⟨v1, w1, hr1, hB1, hO1⟩ := hB.byte 41 123 (by omega)
  obtain ⟨ao1, n1, cp1, rfl, -⟩ := hB1.slice
  have HR1 : Hid ((Builtin.append_ #[41, 41] 41 #[.slice ao n cp, .slice (some ⟨w.heap.size, 0, none⟩) 1 1]).run Tryz.prog (w.alloc (.cells #[.int .u8 123] 5)) = .ok (.slice ao1 n1 cp1) w1) := hr1
  have hC := ai_any lo h0 h12 hP hB1 (by simp; omega)
  have HL : Hid ((xs ++ [123] ++ Lib.itoa lo).length + 36 ≤ 1000000) := by show _ ≤ _; simp only [List.length_append, List.length_cons, List.length_nil]; omega
  have HP : Hid (PT W0) := hP
  have HO1 : Hid (Lib.OthersKept 5 none w w1) := hO1
  clear hB hl hr1 hB1 hO1 hP hil
  generalize Lib.itoa lo = TL at hC HL ⊢
  go_enter Tryz.func55, Tryz.ntmps55
  go_wp2_with (at_builtin; refine Lib.wpList_append_run _ rfl _ _ _ _ rfl _ _ rfl rfl _ _ HR1.out ?_)
  clear HR1
  go_wp2_with fail
  refine hC.mono ?_
  rintro e w2 ⟨v2, rfl, hB2, hO2⟩
  obtain ⟨ao2, n2, cp2, rfl, -⟩ := hB2.slice
  clear hC
  obtain ⟨v9, w9, hr9, hB9, hO9⟩ := hB2.byte 41 125 (by have := HL.out; omega)
  obtain ⟨ao9, n9, cp9, rfl, -⟩ := hB9.slice
  have HR9 : Hid ((Builtin.append_ #[41, 41] 41 #[.slice ao2 n2 cp2, .slice (some ⟨w2.heap.size, 0, none⟩) 1 1]).run Tryz.prog (w2.alloc (.cells #[.int .u8 125] 5)) = .ok (.slice ao9 n9 cp9) w9) := hr9
  have HB9 : Hid (Buf W0 (.slice ao9 n9 cp9) (xs ++ 123 :: (TL ++ [] ++ [125])) w9 ∧ Lib.OthersKept 5 none w w9) := by
    have e : xs ++ 123 :: (TL ++ [] ++ [125]) = xs ++ [123] ++ TL ++ [125] := by simp
    rw [e]
    exact ⟨hB9, (HO1.out.trans hO2).trans hO9⟩
  clear hr9 hB9 hO9 hB2 hO2 HO1 HL HP
  go_wp2_with (at_builtin; refine Lib.wpList_append_run _ rfl _ _ _ _ rfl _ _ rfl rfl _ _ HR9.out ?_)
  clear HR9
  go_wp2_with fail
  go_ret
  exact ⟨_, rfl, HB9.out⟩

set_option maxHeartbeats 2000000 in
set_option maxRecDepth 100000 in
theorem times_vneg (lo hi : Int) (h0 : 0 ≤ lo) (h12 : lo ≤ 12) (_hh : hi ≤ 12) (hlo : 2 ≤ lo) (hne : hi < 0) {W0 : World} {v : Value} {xs : List UInt8} {w : World} (hP : PT W0) (hB : Buf W0 v xs w) (hl : xs.length + 60 ≤ 1000000) :
    Calls Tryz.prog 55 #[v, .int .i64 lo, .int .i64 hi] w (Out W0 xs (123 :: (Lib.itoa lo ++ [44] ++ [125])) w) := by
  have q1 : (lo == 0) = false := by simp; omega
  have q2 : (lo == 1) = false := by simp; omega
  have q3 : ¬ lo = 0 := by omega
  have q4 : ¬ lo = 1 := by omega
  have n1 : (hi != lo) = true := by simp; omega
  have n2 : ¬ hi = lo := by omega
  have n3 : ¬ 0 ≤ hi := by omega
  obtain ⟨ao, n, cp, rfl, -⟩ := hB.slice
  have hil := Lib.itoa_length_le lo (by omega) (by omega)
  obtain ⟨v1, w1, hr1, hB1, hO1⟩ := hB.byte 41 123 (by omega)
  obtain ⟨ao1, n1, cp1, rfl, -⟩ := hB1.slice
  have HR1 : Hid ((Builtin.append_ #[41, 41] 41 #[.slice ao n cp, .slice (some ⟨w.heap.size, 0, none⟩) 1 1]).run Tryz.prog (w.alloc (.cells #[.int .u8 123] 5)) = .ok (.slice ao1 n1 cp1) w1) := hr1
  have hC := ai_any lo h0 h12 hP hB1 (by simp; omega)
  have HL : Hid ((xs ++ [123] ++ Lib.itoa lo).length + 36 ≤ 1000000) := by show _ ≤ _; simp only [List.length_append, List.length_cons, List.length_nil]; omega
  have HP : Hid (PT W0) := hP
  have HO1 : Hid (Lib.OthersKept 5 none w w1) := hO1
  clear hB hl hr1 hB1 hO1 hP hil
  generalize Lib.itoa lo = TL at hC HL ⊢
  go_enter Tryz.func55, Tryz.ntmps55
  go_wp2_with (at_builtin; refine Lib.wpList_append_run _ rfl _ _ _ _ rfl _ _ rfl rfl _ _ HR1.out ?_)
  clear HR1
  go_wp2_with fail
  refine hC.mono ?_
  rintro e w2 ⟨v2, rfl, hB2, hO2⟩
  obtain ⟨ao2, n2, cp2, rfl, -⟩ := hB2.slice
  clear hC
  obtain ⟨v3, w3, hr3, hB3, hO3⟩ := hB2.byte 41 44 (by have := HL.out; omega)
  obtain ⟨ao3, n3, cp3, rfl, -⟩ := hB3.slice
  have HR3 : Hid ((Builtin.append_ #[41, 41] 41 #[.slice ao2 n2 cp2, .slice (some ⟨w2.heap.size, 0, none⟩) 1 1]).run Tryz.prog (w2.alloc (.cells #[.int .u8 44] 5)) = .ok (.slice ao3 n3 cp3) w3) := hr3
  have HB3 : Hid (Buf W0 (.slice ao3 n3 cp3) (xs ++ [123] ++ TL ++ [44]) w3 ∧ Lib.OthersKept 5 none w w3) := ⟨hB3, (HO1.out.trans hO2).trans hO3⟩
  clear hr3 hB3 hO3 hB2 hO2 HO1
  go_upto_region 12 with (at_builtin; refine Lib.wpList_append_run _ rfl _ _ _ _ rfl _ _ rfl rfl _ _ HR3.out ?_)
  clear HR3
  obtain ⟨v9, w9, hr9, hB9, hO9⟩ := HB3.out.1.byte 41 125 (by have := HL.out; simp only [List.length_append, List.length_cons, List.length_nil] at this ⊢; omega)
  obtain ⟨ao9, n9, cp9, rfl, -⟩ := hB9.slice
  have HR9 : Hid ((Builtin.append_ #[41, 41] 41 #[.slice ao3 n3 cp3, .slice (some ⟨w3.heap.size, 0, none⟩) 1 1]).run Tryz.prog (w3.alloc (.cells #[.int .u8 125] 5)) = .ok (.slice ao9 n9 cp9) w9) := hr9
  have HB9 : Hid (Buf W0 (.slice ao9 n9 cp9) (xs ++ 123 :: (TL ++ [44] ++ [125])) w9 ∧ Lib.OthersKept 5 none w w9) := by
    have e : xs ++ 123 :: (TL ++ [44] ++ [125]) = xs ++ [123] ++ TL ++ [44] ++ [125] := by simp
    rw [e]
    exact ⟨hB9, HB3.out.2.trans hO9⟩
  clear hr9 hB9 hO9 HB3 HL HP
  go_wp2_with (at_builtin; refine Lib.wpList_append_run _ rfl _ _ _ _ rfl _ _ rfl rfl _ _ HR9.out ?_)
  clear HR9
  go_wp2_with fail
  go_ret
  exact ⟨_, rfl, HB9.out⟩

set_option maxHeartbeats 2000000 in
set_option maxRecDepth 100000 in
theorem times_vpos (lo hi : Int) (h0 : 0 ≤ lo) (h12 : lo ≤ 12) (hh : hi ≤ 12) (hlo : 2 ≤ lo) (hne : hi ≠ lo) (hp : 0 ≤ hi) {W0 : World} {v : Value} {xs : List UInt8} {w : World} (hP : PT W0) (hB : Buf W0 v xs w) (hl : xs.length + 60 ≤ 1000000) :
    Calls Tryz.prog 55 #[v, .int .i64 lo, .int .i64 hi] w (Out W0 xs (123 :: (Lib.itoa lo ++ (44 :: Lib.itoa hi) ++ [125])) w) := by
  have q1 : (lo == 0) = false := by simp; omega
  have q2 : (lo == 1) = false := by simp; omega
  have q3 : ¬ lo = 0 := by omega
  have q4 : ¬ lo = 1 := by omega
  have n1 : (hi != lo) = true := by simp; omega
  have n2 : ¬ hi = lo := by omega
  obtain ⟨ao, n, cp, rfl, -⟩ := hB.slice
  have hil := Lib.itoa_length_le lo (by omega) (by omega)
  have HIL : Hid ((Lib.itoa hi).length ≤ 21) := Lib.itoa_length_le hi (by omega) (by omega)
  obtain ⟨v1, w1, hr1, hB1, hO1⟩ := hB.byte 41 123 (by omega)
  obtain ⟨ao1, n1, cp1, rfl, -⟩ := hB1.slice
  have HR1 : Hid ((Builtin.append_ #[41, 41] 41 #[.slice ao n cp, .slice (some ⟨w.heap.size, 0, none⟩) 1 1]).run Tryz.prog (w.alloc (.cells #[.int .u8 123] 5)) = .ok (.slice ao1 n1 cp1) w1) := hr1
  have hC := ai_any lo h0 h12 hP hB1 (by simp; omega)
  have HL : Hid ((xs ++ [123] ++ Lib.itoa lo).length + 36 ≤ 1000000) := by show _ ≤ _; simp only [List.length_append, List.length_cons, List.length_nil]; omega
  have HP : Hid (PT W0) := hP
  have HO1 : Hid (Lib.OthersKept 5 none w w1) := hO1
  clear hB hl hr1 hB1 hO1 hP hil
  generalize Lib.itoa lo = TL at hC HL ⊢
  go_enter Tryz.func55, Tryz.ntmps55
  go_wp2_with (at_builtin; refine Lib.wpList_append_run _ rfl _ _ _ _ rfl _ _ rfl rfl _ _ HR1.out ?_)
  clear HR1
  go_wp2_with fail
  refine hC.mono ?_
  rintro e w2 ⟨v2, rfl, hB2, hO2⟩
  obtain ⟨ao2, n2, cp2, rfl, -⟩ := hB2.slice
  clear hC
  obtain ⟨v3, w3, hr3, hB3, hO3⟩ := hB2.byte 41 44 (by have := HL.out; omega)
  obtain ⟨ao3, n3, cp3, rfl, -⟩ := hB3.slice
  have HR3 : Hid ((Builtin.append_ #[41, 41] 41 #[.slice ao2 n2 cp2, .slice (some ⟨w2.heap.size, 0, none⟩) 1 1]).run Tryz.prog (w2.alloc (.cells #[.int .u8 44] 5)) = .ok (.slice ao3 n3 cp3) w3) := hr3
  have HB3 : Hid (Buf W0 (.slice ao3 n3 cp3) (xs ++ [123] ++ TL ++ [44]) w3 ∧ Lib.OthersKept 5 none w w3) := ⟨hB3, (HO1.out.trans hO2).trans hO3⟩
  clear hr3 hB3 hO3 hB2 hO2 HO1
  go_wp2_with (at_builtin; refine Lib.wpList_append_run _ rfl _ _ _ _ rfl _ _ rfl rfl _ _ HR3.out ?_)
  clear HR3
  have hD := ai_any hi hp hh HP.out HB3.out.1 (by have := HL.out; simp only [List.length_append, List.length_cons, List.length_nil] at this ⊢; omega)
  have HO3 : Hid (Lib.OthersKept 5 none w w3) := HB3.out.2
  have HL2 : Hid ((xs ++ [123] ++ TL ++ [44] ++ Lib.itoa hi).length + 10 ≤ 1000000) := by have := HL.out; have := HIL.out; show _ ≤ _; simp only [List.length_append, List.length_cons, List.length_nil] at *; omega
  clear HB3 HP
  go_wp2_with fail
  refine hD.mono ?_
  rintro e w4 ⟨v4, rfl, hB4, hO4⟩
  obtain ⟨ao4, n4, cp4, rfl, -⟩ := hB4.slice
  clear hD
  obtain ⟨v9, w9, hr9, hB9, hO9⟩ := hB4.byte 41 125 (by have := HL.out; have := HL2.out; omega)
  obtain ⟨ao9, n9, cp9, rfl, -⟩ := hB9.slice
  have HR9 : Hid ((Builtin.append_ #[41, 41] 41 #[.slice ao4 n4 cp4, .slice (some ⟨w4.heap.size, 0, none⟩) 1 1]).run Tryz.prog (w4.alloc (.cells #[.int .u8 125] 5)) = .ok (.slice ao9 n9 cp9) w9) := hr9
  have HB9 : Hid (Buf W0 (.slice ao9 n9 cp9) (xs ++ 123 :: (TL ++ (44 :: Lib.itoa hi) ++ [125])) w9 ∧ Lib.OthersKept 5 none w w9) := by
    have e : xs ++ 123 :: (TL ++ (44 :: Lib.itoa hi) ++ [125]) = xs ++ [123] ++ TL ++ [44] ++ Lib.itoa hi ++ [125] := by simp
    rw [e]
    exact ⟨hB9, (HO3.out.trans hO4).trans hO9⟩
  clear hr9 hB9 hO9 hB4 hO4 HO3 HL HL2
  go_wp2_with (at_builtin; refine Lib.wpList_append_run _ rfl _ _ _ _ rfl _ _ rfl rfl _ _ HR9.out ?_)
  clear HR9
  go_wp2_with fail
  go_ret
  exact ⟨_, rfl, HB9.out⟩

theorem times_any' (lo hi : Int) (h : 0 ≤ lo ∧ lo ≤ 12 ∧ -1 ≤ hi ∧ hi ≤ 12) {W0 : World} {v : Value} {xs : List UInt8} {w : World} (hP : PT W0) (hB : Buf W0 v xs w) (hl : xs.length + 60 ≤ 1000000) :
    Calls Tryz.prog 55 #[v, .int .i64 lo, .int .i64 hi] w (Out W0 xs (RP.timesT lo hi) w) := by
  obtain ⟨h0, h1, h2, h3⟩ := h
  unfold RP.timesT
  by_cases a1 : lo = 0 ∧ hi < 0
  · rw [if_pos a1]; obtain ⟨rfl, a1⟩ := a1; exact times_star hi a1 hB (by omega)
  rw [if_neg a1]
  by_cases a2 : lo = 1 ∧ hi < 0
  · rw [if_pos a2]; obtain ⟨rfl, a2⟩ := a2; exact times_plus hi a2 hB (by omega)
  rw [if_neg a2]
  by_cases a3 : lo = 0 ∧ hi = 1
  · rw [if_pos a3]; obtain ⟨rfl, a3⟩ := a3; exact times_opt hi a3 hB (by omega)
  rw [if_neg a3]
  by_cases b0 : lo = 0
  · by_cases c : hi = lo
    · rw [if_pos c]; exact times_0eq lo hi h0 h1 h3 b0 c hP hB hl
    · rw [if_neg c, if_neg (by omega)]; exact times_0pos lo hi h0 h1 h3 b0 c (by omega) (by omega) hP hB hl
  by_cases b1 : lo = 1
  · by_cases c : hi = lo
    · rw [if_pos c]; exact times_1eq lo hi h0 h1 h3 b1 c hP hB hl
    · rw [if_neg c, if_neg (by omega)]; exact times_1pos lo hi h0 h1 h3 b1 c (by omega) hP hB hl
  by_cases c : hi = lo
  · rw [if_pos c]; exact times_veq lo hi h0 h1 h3 (by omega) c hP hB hl
  rw [if_neg c]
  by_cases d : hi < 0
  · rw [if_pos d]; exact times_vneg lo hi h0 h1 h3 (by omega) d hP hB hl
  · rw [if_neg d]; exact times_vpos lo hi h0 h1 h3 (by omega) c (by omega) hP hB hl

end Go.Proofs.YtjbmdnkpfkelmaaGreatDoor.Q
