/- The contract of rule.tokenAt. -/
import Derived.Test.YtjbmdnkpfkelmaaGreatDoorTokB
import Derived.Lib.Strings
import Derived.Lib.IndexAny
import Derived.Lib.IndexLaws
namespace Go.Proofs.YtjbmdnkpfkelmaaGreatDoor.Q
open Go.RowKit Go.Shelf

theorem ba_of {a : ByteArray} {l : List UInt8} (h : a.data.toList = l) : a = ⟨l.toArray⟩ := by
  apply ByteArray.ext
  simp [← h]

theorem cut_text (s : ByteArray) (n k : Nat) (p : UInt8 → Bool) (hk : k = n + ((s.data.toList.drop n).takeWhile p).length) : s.extract n k = ⟨((s.data.toList.drop n).takeWhile p).toArray⟩ := by
  refine ba_of ?_
  rw [Lib.extract_data, hk, Nat.add_sub_cancel_left]
  exact (List.prefix_iff_eq_take.1 (List.takeWhile_prefix (l := s.data.toList.drop n) p)).symm

theorem cut_take (s : ByteArray) (n k : Nat) (x : List UInt8) (hx : (s.data.toList.drop n).take x.length = x) (hk : k = n + x.length) : s.extract n k = ⟨x.toArray⟩ := by
  refine ba_of ?_
  rw [Lib.extract_data, hk, Nat.add_sub_cancel_left, hx]

theorem upto_none {r : List UInt8} (h : Lib.indexByte r 93 = -1) : RP.upto93 r = none := by
  induction r with
  | nil => rfl
  | cons c r ih =>
    rw [Lib.indexByte] at h
    rw [RP.upto93]
    by_cases hc : c = 93
    · rw [if_pos (by simpa using hc)] at h; omega
    · rw [if_neg (by simpa using hc)] at h
      rw [if_neg hc]
      split at h
      · rename_i h1
        rw [ih (by simpa using h1)]; rfl
      · have := Lib.indexByte_ge r 93
        rename_i h1
        simp at h1
        omega

theorem upto_some : ∀ {r : List UInt8} {i : Nat}, Lib.indexByte r 93 = i → ∃ x, RP.upto93 r = some x ∧ x.length = i + 1 := by
  intro r
  induction r with
  | nil => intro i h; rw [Lib.indexByte] at h; omega
  | cons c r ih =>
    intro i h
    rw [Lib.indexByte] at h
    rw [RP.upto93]
    by_cases hc : c = 93
    · rw [if_pos (by simpa using hc)] at h
      rw [if_pos hc]
      exact ⟨[c], rfl, by simp; omega⟩
    · rw [if_neg (by simpa using hc)] at h
      rw [if_neg hc]
      split at h
      · omega
      · have h2 := Lib.indexByte_ge r 93
        rename_i h1
        simp at h1
        obtain ⟨x, hx, hl⟩ := ih (show Lib.indexByte r 93 = ((i - 1 : Nat) : Int) by omega)
        exact ⟨c :: x, by rw [hx]; rfl, by simp; omega⟩

theorem row3 {w : World} {b : Nat} {x y z : Value} {t : TypeId} (h : w.heap[b]? = some (.cells #[x, y, z] t)) :
    w.cell? ⟨b, 0, none⟩ = some x ∧ w.cell? ⟨b, 1, none⟩ = some y ∧ w.cell? ⟨b, 2, none⟩ = some z ∧ w.frozen? ⟨b, 0, none⟩ = false ∧ w.frozen? ⟨b, 1, none⟩ = false ∧ w.frozen? ⟨b, 2, none⟩ = false :=
  ⟨cell_of_row w b 0 _ _ _ h, cell_of_row w b 1 _ _ _ h, cell_of_row w b 2 _ _ _ h, frozen_of_row w b 0 _ _ h, frozen_of_row w b 1 _ _ h, frozen_of_row w b 2 _ _ h⟩

theorem row3_set {w : World} {b : Nat} {x y z : Value} {t : TypeId} (h : w.heap[b]? = some (.cells #[x, y, z] t)) (u v q : Value) :
    (((w.setCell ⟨b, 0, none⟩ u).setCell ⟨b, 1, none⟩ v).setCell ⟨b, 2, none⟩ q).heap[b]? = some (.cells #[u, v, q] t) := by
  have h1 := heap_setCell_same w b 0 _ t u h
  have h2 := heap_setCell_same _ b 1 _ t v h1
  have h3 := heap_setCell_same _ b 2 _ t q h2
  exact h3

theorem size53 : (Tryz.prog.info? 53).map (·.size) = some 3 := by kernel_rfl

/-- The world in which tokenAt begins to look. -/
structure At0 (s : ByteArray) (n : Nat) (w W : World) : Prop where
  below : Below w.heap.size w W
  size : W.heap.size = w.heap.size + 1 + 1 + 1 + 1 + 1
  c0 : W.cell? ⟨w.heap.size, 0, none⟩ = some (.string s)
  c1 : W.cell? ⟨w.heap.size + 1, 0, none⟩ = some (.int .i64 n)
  r : W.heap[w.heap.size + 1 + 1]? = some (.cells #[.int .i64 0, .int .i64 0, .string ⟨#[]⟩] 53)
  c3 : W.cell? ⟨w.heap.size + 1 + 1 + 1, 0, none⟩ = some (.func (.func 32) #[] #[])
  c4 : W.cell? ⟨w.heap.size + 1 + 1 + 1 + 1, 0, none⟩ = some (.func (.func 33) #[] #[])

theorem at0 (s : ByteArray) (n : Nat) (w : World) : At0 s n w (((((w.alloc (.cells #[.string s] 9)).alloc (.cells #[.int .i64 n] 3)).alloc (.cells #[.int .i64 0, .int .i64 0, .string ⟨#[]⟩] 53)).alloc (.cells #[.func (.func 32) #[] #[]] 72)).alloc (.cells #[.func (.func 33) #[] #[]] 72)) := by
  have h0 : ∀ A B C D E : Obj, (((((w.alloc A).alloc B).alloc C).alloc D).alloc E).heap[w.heap.size]? = some A := fun A B C D E => by
    rw [heap_alloc_old _ _ (by simp <;> omega), heap_alloc_old _ _ (by simp <;> omega), heap_alloc_old _ _ (by simp <;> omega), heap_alloc_old _ _ (by simp <;> omega)]; exact heap_alloc_new _ _
  have h1 : ∀ A B C D E : Obj, (((((w.alloc A).alloc B).alloc C).alloc D).alloc E).heap[w.heap.size + 1]? = some B := fun A B C D E => by
    rw [heap_alloc_old _ _ (by simp <;> omega), heap_alloc_old _ _ (by simp <;> omega), heap_alloc_old _ _ (by simp <;> omega)]; simpa using heap_alloc_new (w.alloc A) B
  have h2 : ∀ A B C D E : Obj, (((((w.alloc A).alloc B).alloc C).alloc D).alloc E).heap[w.heap.size + 1 + 1]? = some C := fun A B C D E => by
    rw [heap_alloc_old _ _ (by simp <;> omega), heap_alloc_old _ _ (by simp <;> omega)]; simpa using heap_alloc_new ((w.alloc A).alloc B) C
  have h3 : ∀ A B C D E : Obj, (((((w.alloc A).alloc B).alloc C).alloc D).alloc E).heap[w.heap.size + 1 + 1 + 1]? = some D := fun A B C D E => by
    rw [heap_alloc_old _ _ (by simp <;> omega)]; simpa using heap_alloc_new (((w.alloc A).alloc B).alloc C) D
  have h4 : ∀ A B C D E : Obj, (((((w.alloc A).alloc B).alloc C).alloc D).alloc E).heap[w.heap.size + 1 + 1 + 1 + 1]? = some E := fun A B C D E => by
    simpa using heap_alloc_new ((((w.alloc A).alloc B).alloc C).alloc D) E
  exact ⟨(((((Below.refl _ w).alloc (Nat.le_refl _) _).alloc (by simp) _).alloc (by simp; omega) _).alloc (by simp; omega) _).alloc (by simp; omega) _, by simp, cell_of_row _ _ 0 _ _ _ (h0 _ _ _ _ _), cell_of_row _ _ 0 _ _ _ (h1 _ _ _ _ _), h2 _ _ _ _ _, cell_of_row _ _ 0 _ _ _ (h3 _ _ _ _ _), cell_of_row _ _ 0 _ _ _ (h4 _ _ _ _ _)⟩

/-- An error of the program's own is thrown. -/
def Throws (w : World) (en pl : Int) (e : Ending) (w' : World) : Prop :=
  ∃ b, e = .panicked [{ v := .iface 33 (.pointer (some ⟨b, 0, none⟩)), recovered := false }] ∧ w'.heap[b]? = some (.cells #[.int .i64 en, .int .i64 pl] 77) ∧ w.heap.size ≤ b ∧ b < w'.heap.size

set_option maxHeartbeats 1000000 in
set_option maxRecDepth 100000 in
theorem tokenAt_letter (s : ByteArray) (n : Nat) (hs : s.size ≤ 1000000) (hn : n < s.size) (hl : RP.letter s[n] = true) (w : World) :
    Calls Tryz.prog 15 #[.string s, .int .i64 n] w fun e w' => e = .returned (tokV 1 n ⟨((s.data.toList.drop n).takeWhile RP.either).toArray⟩) ∧ Below w.heap.size w w' := by
  obtain ⟨W0, HW0, H0⟩ : ∃ W0, Hid (W0 = ((((w.alloc (.cells #[.string s] 9)).alloc (.cells #[.int .i64 n] 3)).alloc (.cells #[.int .i64 0, .int .i64 0, .string ⟨#[]⟩] 53)).alloc (.cells #[.func (.func 32) #[] #[]] 72)).alloc (.cells #[.func (.func 33) #[] #[]] 72)) ∧ At0 s n w W0 := ⟨_, rfl, at0 s n w⟩
  have hb0 := H0.below
  have hz0 := H0.size
  have c0 := H0.c0
  have c1 := H0.c1
  have c3 := H0.c3
  have c4 := H0.c4
  have HR0 : Hid (W0.heap[w.heap.size + 1 + 1]? = some (.cells #[.int .i64 0, .int .i64 0, .string ⟨#[]⟩] 53)) := H0.r
  clear H0
  have e32 := eg32
  have e33 := eg33
  have e35 := eg35
  have hmf : ∀ (fn : Fn) (first cap : Array Value) (w : World), (Instr.makeFunc fn first cap).run Tryz.prog w = .ok (.func fn first cap) w := fun _ _ _ _ => rfl
  have hcl := letter_any W0 (s[n]'hn)
  have hcd := digit_any W0 (s[n]'hn)
  rw [hl] at hcl
  have hP := past_any 34 #[.pointer (some ⟨w.heap.size + 1 + 1 + 1, 0, none⟩), .pointer (some ⟨w.heap.size + 1 + 1 + 1 + 1, 0, none⟩)] eg34 RP.either s n hs (by omega) W0 (either_any W0 _ _ c3 c4)
  clear hcd hl
  go_enter Tryz.func15, Tryz.ntmps15
  go_wp2_with fail
  rw [← HW0.out]
  refine hcl.mono ?_
  rintro e w' ⟨rfl, hw'⟩
  obtain rfl := hw'.symm
  clear hcl
  go_wp2_with fail
  refine hP.mono ?_
  rintro e w' ⟨⟨k, rfl, hk1, hk2, -, hk⟩, hw'⟩
  obtain rfl := hw'.symm
  have HC := cut_any 1 n k s w.heap.size (w.heap.size + 1) W0 (by omega) (by omega) hs hk1 hk2 c0 c1
  rw [cut_text s n k RP.either hk] at HC
  clear hP hk
  go_wp2_with fail
  refine HC.mono ?_
  rintro e w2 ⟨rfl, hb2⟩
  have hb3 : Below w.heap.size w w2 := hb0.trans (hb2.mono (by omega))
  have HR2 : Hid (w2.heap[w.heap.size + 1 + 1]? = some (.cells #[.int .i64 0, .int .i64 0, .string ⟨#[]⟩] 53)) := (hb2.block _ (by omega)).trans HR0.out
  obtain ⟨q0, q1, q2, f0, f1, f2⟩ := row3 HR2.out
  clear hb2 HC c0 c1 c3 c4
  unfold tokV
  go_wp2_with fail
  refine bodyPost_ret (results_cell_row rfl _ _ (w.heap.size + 1 + 1) 53 #[_, _, _] _ _ rfl (row3_set HR2.out _ _ _) Tryz.underlying53 rfl size53) rfl ?_
  exact ⟨rfl, ((hb3.setCell (p := ⟨w.heap.size + 1 + 1, 0, none⟩) (by show w.heap.size ≤ w.heap.size + 1 + 1; omega) _).setCell (p := ⟨w.heap.size + 1 + 1, 1, none⟩) (by show w.heap.size ≤ w.heap.size + 1 + 1; omega) _).setCell (p := ⟨w.heap.size + 1 + 1, 2, none⟩) (by show w.heap.size ≤ w.heap.size + 1 + 1; omega) _⟩

set_option maxHeartbeats 1000000 in
set_option maxRecDepth 100000 in
theorem tokenAt_digit (s : ByteArray) (n : Nat) (hs : s.size ≤ 1000000) (hn : n < s.size) (hl : RP.letter s[n] = false) (hd : RP.digit s[n] = true) (w : World) :
    Calls Tryz.prog 15 #[.string s, .int .i64 n] w fun e w' => e = .returned (tokV 2 n ⟨((s.data.toList.drop n).takeWhile RP.digit).toArray⟩) ∧ Below w.heap.size w w' := by
  obtain ⟨W0, HW0, H0⟩ : ∃ W0, Hid (W0 = ((((w.alloc (.cells #[.string s] 9)).alloc (.cells #[.int .i64 n] 3)).alloc (.cells #[.int .i64 0, .int .i64 0, .string ⟨#[]⟩] 53)).alloc (.cells #[.func (.func 32) #[] #[]] 72)).alloc (.cells #[.func (.func 33) #[] #[]] 72)) ∧ At0 s n w W0 := ⟨_, rfl, at0 s n w⟩
  have hb0 := H0.below
  have hz0 := H0.size
  have c0 := H0.c0
  have c1 := H0.c1
  have c3 := H0.c3
  have c4 := H0.c4
  have HR0 : Hid (W0.heap[w.heap.size + 1 + 1]? = some (.cells #[.int .i64 0, .int .i64 0, .string ⟨#[]⟩] 53)) := H0.r
  clear H0
  have e32 := eg32
  have e33 := eg33
  have e35 := eg35
  have hmf : ∀ (fn : Fn) (first cap : Array Value) (w : World), (Instr.makeFunc fn first cap).run Tryz.prog w = .ok (.func fn first cap) w := fun _ _ _ _ => rfl
  have hcl := letter_any W0 (s[n]'hn)
  have hcd := digit_any W0 (s[n]'hn)
  rw [hl] at hcl
  rw [hd] at hcd
  have hP := past_any 33 #[] eg33 RP.digit s n hs (by omega) W0 (digit_any W0)
  clear hl hd
  go_enter Tryz.func15, Tryz.ntmps15
  go_wp2_with fail
  rw [← HW0.out]
  refine hcl.mono ?_
  rintro e w' ⟨rfl, hw'⟩
  obtain rfl := hw'.symm
  clear hcl
  go_wp2_with fail
  refine hcd.mono ?_
  rintro e w' ⟨rfl, hw'⟩
  obtain rfl := hw'.symm
  clear hcd
  go_wp2_with fail
  refine hP.mono ?_
  rintro e w' ⟨⟨k, rfl, hk1, hk2, -, hk⟩, hw'⟩
  obtain rfl := hw'.symm
  have HC := cut_any 2 n k s w.heap.size (w.heap.size + 1) W0 (by omega) (by omega) hs hk1 hk2 c0 c1
  rw [cut_text s n k RP.digit hk] at HC
  clear hP hk
  go_wp2_with fail
  refine HC.mono ?_
  rintro e w2 ⟨rfl, hb2⟩
  have hb3 : Below w.heap.size w w2 := hb0.trans (hb2.mono (by omega))
  have HR2 : Hid (w2.heap[w.heap.size + 1 + 1]? = some (.cells #[.int .i64 0, .int .i64 0, .string ⟨#[]⟩] 53)) := (hb2.block _ (by omega)).trans HR0.out
  obtain ⟨q0, q1, q2, f0, f1, f2⟩ := row3 HR2.out
  clear hb2 HC c0 c1 c3 c4
  unfold tokV
  go_wp2_with fail
  refine bodyPost_ret (results_cell_row rfl _ _ (w.heap.size + 1 + 1) 53 #[_, _, _] _ _ rfl (row3_set HR2.out _ _ _) Tryz.underlying53 rfl size53) rfl ?_
  exact ⟨rfl, ((hb3.setCell (p := ⟨w.heap.size + 1 + 1, 0, none⟩) (by show w.heap.size ≤ w.heap.size + 1 + 1; omega) _).setCell (p := ⟨w.heap.size + 1 + 1, 1, none⟩) (by show w.heap.size ≤ w.heap.size + 1 + 1; omega) _).setCell (p := ⟨w.heap.size + 1 + 1, 2, none⟩) (by show w.heap.size ≤ w.heap.size + 1 + 1; omega) _⟩

theorem ib_any (s : ByteArray) (c : Int) (w : World) : Calls Tryz.prog 36 #[.string s, .int .u8 c] w fun e w' => e = .returned (.int .i64 (Lib.indexByte s.data.toList c.toNat.toUInt8)) ∧ w' = w := Any.strings_IndexByte Tryz.ibL s c w

set_option maxHeartbeats 1000000 in
set_option maxRecDepth 100000 in
theorem tokenAt_set (s : ByteArray) (n : Nat) (hs : s.size ≤ 1000000) (hn : n < s.size) (hl : RP.letter s[n] = false) (hd : RP.digit s[n] = false) (h91 : s[n] = 91) (x : List UInt8) (hx : RP.upto93 (s.data.toList.drop n) = some x) (w : World) :
    Calls Tryz.prog 15 #[.string s, .int .i64 n] w fun e w' => e = .returned (tokV 3 n ⟨x.toArray⟩) ∧ Below w.heap.size w w' := by
  obtain ⟨W0, HW0, H0⟩ : ∃ W0, Hid (W0 = ((((w.alloc (.cells #[.string s] 9)).alloc (.cells #[.int .i64 n] 3)).alloc (.cells #[.int .i64 0, .int .i64 0, .string ⟨#[]⟩] 53)).alloc (.cells #[.func (.func 32) #[] #[]] 72)).alloc (.cells #[.func (.func 33) #[] #[]] 72)) ∧ At0 s n w W0 := ⟨_, rfl, at0 s n w⟩
  have hb0 := H0.below
  have hz0 := H0.size
  have c0 := H0.c0
  have c1 := H0.c1
  have c3 := H0.c3
  have c4 := H0.c4
  have HR0 : Hid (W0.heap[w.heap.size + 1 + 1]? = some (.cells #[.int .i64 0, .int .i64 0, .string ⟨#[]⟩] 53)) := H0.r
  clear H0
  have e32 := eg32
  have e33 := eg33
  have e35 := eg35
  have hmf : ∀ (fn : Fn) (first cap : Array Value) (w : World), (Instr.makeFunc fn first cap).run Tryz.prog w = .ok (.func fn first cap) w := fun _ _ _ _ => rfl
  have hcl := letter_any W0 (s[n]'hn)
  have hcd := digit_any W0 (s[n]'hn)
  rw [hl] at hcl
  rw [hd] at hcd
  clear hl hd
  have hxl := RP.upto93_len hx
  have hdl : (s.data.toList.drop n).length = s.size - n := by rw [List.length_drop]; rfl
  have hI := ib_any (s.extract n s.size) 93 W0
  rw [Lib.extract_data, List.take_of_length_le (by rw [hdl]; omega)] at hI
  obtain ⟨i, hi, hil⟩ : ∃ i : Nat, Lib.indexByte (s.data.toList.drop n) (93 : Int).toNat.toUInt8 = i ∧ x.length = i + 1 := by
    have e93 : (93 : Int).toNat.toUInt8 = 93 := rfl
    rw [e93]
    by_cases hm : Lib.indexByte (s.data.toList.drop n) 93 = -1
    · rw [upto_none hm] at hx; cases hx
    · have hge := Lib.indexByte_ge (s.data.toList.drop n) 93
      obtain ⟨j, hj⟩ := Int.eq_ofNat_of_zero_le (show 0 ≤ Lib.indexByte (s.data.toList.drop n) 93 by omega)
      obtain ⟨y, hy, hyl⟩ := upto_some hj
      rw [hx] at hy
      cases hy
      exact ⟨j, hj, hyl⟩
  rw [hi] at hI
  have hz : ((s[n].toNat : Int) == 91) = true := by rw [h91]; rfl
  have HC := cut_any 3 n (n + i + 1) s w.heap.size (w.heap.size + 1) W0 (by omega) (by omega) hs (by omega) (by omega) c0 c1
  rw [cut_take s n (n + i + 1) x hxl.2.2 (by omega)] at HC
  have hib : n + i + 1 ≤ 1000000 := by omega
  have hn0 : (0 : Int) ≤ (n : Int) := by omega
  have hns : (n : Int) ≤ (s.size : Int) := by omega
  push_cast at HC
  clear hx hxl hdl hi hil h91
  go_enter Tryz.func15, Tryz.ntmps15
  go_wp2_with fail
  rw [← HW0.out]
  refine hcl.mono ?_
  rintro e w' ⟨rfl, hw'⟩
  obtain rfl := hw'.symm
  clear hcl
  go_wp2_with fail
  refine hcd.mono ?_
  rintro e w' ⟨rfl, hw'⟩
  obtain rfl := hw'.symm
  clear hcd
  go_wp2_with fail
  refine hI.mono ?_
  rintro e w' ⟨rfl, hw'⟩
  obtain rfl := hw'.symm
  clear hI
  go_wp2_with fail
  refine HC.mono ?_
  rintro e w2 ⟨rfl, hb2⟩
  have hb3 : Below w.heap.size w w2 := hb0.trans (hb2.mono (by omega))
  have HR2 : Hid (w2.heap[w.heap.size + 1 + 1]? = some (.cells #[.int .i64 0, .int .i64 0, .string ⟨#[]⟩] 53)) := (hb2.block _ (by omega)).trans HR0.out
  obtain ⟨q0, q1, q2, f0, f1, f2⟩ := row3 HR2.out
  clear hb2 HC c0 c1 c3 c4
  unfold tokV
  go_wp2_with fail
  refine bodyPost_ret (results_cell_row rfl _ _ (w.heap.size + 1 + 1) 53 #[_, _, _] _ _ rfl (row3_set HR2.out _ _ _) Tryz.underlying53 rfl size53) rfl ?_
  exact ⟨rfl, ((hb3.setCell (p := ⟨w.heap.size + 1 + 1, 0, none⟩) (by show w.heap.size ≤ w.heap.size + 1 + 1; omega) _).setCell (p := ⟨w.heap.size + 1 + 1, 1, none⟩) (by show w.heap.size ≤ w.heap.size + 1 + 1; omega) _).setCell (p := ⟨w.heap.size + 1 + 1, 2, none⟩) (by show w.heap.size ≤ w.heap.size + 1 + 1; omega) _⟩

set_option maxHeartbeats 1000000 in
set_option maxRecDepth 100000 in
theorem tokenAt_mark (s : ByteArray) (n : Nat) (hs : s.size ≤ 1000000) (hn : n < s.size) (hl : RP.letter s[n] = false) (hd : RP.digit s[n] = false) (h91 : s[n] ≠ 91) (hm : RP.marks.contains s[n] = true) (w : World) :
    Calls Tryz.prog 15 #[.string s, .int .i64 n] w fun e w' => e = .returned (tokV 4 n ⟨#[s[n]]⟩) ∧ Below w.heap.size w w' := by
  obtain ⟨W0, HW0, H0⟩ : ∃ W0, Hid (W0 = ((((w.alloc (.cells #[.string s] 9)).alloc (.cells #[.int .i64 n] 3)).alloc (.cells #[.int .i64 0, .int .i64 0, .string ⟨#[]⟩] 53)).alloc (.cells #[.func (.func 32) #[] #[]] 72)).alloc (.cells #[.func (.func 33) #[] #[]] 72)) ∧ At0 s n w W0 := ⟨_, rfl, at0 s n w⟩
  have hb0 := H0.below
  have hz0 := H0.size
  have c0 := H0.c0
  have c1 := H0.c1
  have c3 := H0.c3
  have c4 := H0.c4
  have HR0 : Hid (W0.heap[w.heap.size + 1 + 1]? = some (.cells #[.int .i64 0, .int .i64 0, .string ⟨#[]⟩] 53)) := H0.r
  clear H0
  have e32 := eg32
  have e33 := eg33
  have e35 := eg35
  have hmf : ∀ (fn : Fn) (first cap : Array Value) (w : World), (Instr.makeFunc fn first cap).run Tryz.prog w = .ok (.func fn first cap) w := fun _ _ _ _ => rfl
  have hcl := letter_any W0 (s[n]'hn)
  have hcd := digit_any W0 (s[n]'hn)
  rw [hl] at hcl
  rw [hd] at hcd
  clear hl hd
  have hI := ib_any ⟨#[61, 59, 58, 124, 38, 45, 126, 40, 41, 46, 42, 43, 63, 123, 125, 44, 36]⟩ (s[n].toNat : Int) W0
  have hge : 0 ≤ Lib.indexByte RP.marks s[n] := by rw [Lib.contains_iff_indexByte] at hm; simpa using hm
  have ec : ((s[n].toNat : Int)).toNat.toUInt8 = s[n] := by simp
  rw [ec] at hI
  change Calls Tryz.prog 36 _ W0 (fun e w' => e = .returned (.int .i64 (Lib.indexByte RP.marks s[n])) ∧ w' = W0) at hI
  generalize Lib.indexByte RP.marks s[n] = ix at hI hge
  have hz : ((s[n].toNat : Int) == 91) = false := by
    have := u8_eq s[n] 91 (by omega)
    rw [show ((91 : Nat) : Int) = 91 from rfl] at this
    rw [← this]
    simpa using h91
  have HC := cut_any 4 n (n + 1) s w.heap.size (w.heap.size + 1) W0 (by omega) (by omega) hs (by omega) (by omega) c0 c1
  have htx : s.extract n (n + 1) = ⟨#[s[n]]⟩ := by
    have h1 := cut_take s n (n + 1) [s[n]] (by rw [drop_byte s n hn]; rfl) rfl
    exact h1
  rw [htx] at HC
  push_cast at HC
  clear ec hm h91 htx
  go_enter Tryz.func15, Tryz.ntmps15
  go_wp2_with fail
  rw [← HW0.out]
  refine hcl.mono ?_
  rintro e w' ⟨rfl, hw'⟩
  obtain rfl := hw'.symm
  clear hcl
  go_wp2_with fail
  refine hcd.mono ?_
  rintro e w' ⟨rfl, hw'⟩
  obtain rfl := hw'.symm
  clear hcd
  go_wp2_with fail
  refine hI.mono ?_
  rintro e w' ⟨rfl, hw'⟩
  obtain rfl := hw'.symm
  clear hI
  go_wp2_with fail
  refine HC.mono ?_
  rintro e w2 ⟨rfl, hb2⟩
  have hb3 : Below w.heap.size w w2 := hb0.trans (hb2.mono (by omega))
  have HR2 : Hid (w2.heap[w.heap.size + 1 + 1]? = some (.cells #[.int .i64 0, .int .i64 0, .string ⟨#[]⟩] 53)) := (hb2.block _ (by omega)).trans HR0.out
  obtain ⟨q0, q1, q2, f0, f1, f2⟩ := row3 HR2.out
  clear hb2 HC c0 c1 c3 c4
  unfold tokV
  go_wp2_with fail
  refine bodyPost_ret (results_cell_row rfl _ _ (w.heap.size + 1 + 1) 53 #[_, _, _] _ _ rfl (row3_set HR2.out _ _ _) Tryz.underlying53 rfl size53) rfl ?_
  exact ⟨rfl, ((hb3.setCell (p := ⟨w.heap.size + 1 + 1, 0, none⟩) (by show w.heap.size ≤ w.heap.size + 1 + 1; omega) _).setCell (p := ⟨w.heap.size + 1 + 1, 1, none⟩) (by show w.heap.size ≤ w.heap.size + 1 + 1; omega) _).setCell (p := ⟨w.heap.size + 1 + 1, 2, none⟩) (by show w.heap.size ≤ w.heap.size + 1 + 1; omega) _⟩

set_option maxHeartbeats 1000000 in
set_option maxRecDepth 100000 in
theorem tokenAt_open (s : ByteArray) (n : Nat) (_hs : s.size ≤ 1000000) (hn : n < s.size) (hl : RP.letter s[n] = false) (hd : RP.digit s[n] = false) (h91 : s[n] = 91) (hx : RP.upto93 (s.data.toList.drop n) = none) (w : World) :
    Calls Tryz.prog 15 #[.string s, .int .i64 n] w fun e w' => Throws w 3 n e w' ∧ Below w.heap.size w w' := by
  obtain ⟨W0, HW0, H0⟩ : ∃ W0, Hid (W0 = ((((w.alloc (.cells #[.string s] 9)).alloc (.cells #[.int .i64 n] 3)).alloc (.cells #[.int .i64 0, .int .i64 0, .string ⟨#[]⟩] 53)).alloc (.cells #[.func (.func 32) #[] #[]] 72)).alloc (.cells #[.func (.func 33) #[] #[]] 72)) ∧ At0 s n w W0 := ⟨_, rfl, at0 s n w⟩
  have hb0 := H0.below
  have hz0 := H0.size
  have c0 := H0.c0
  have c1 := H0.c1
  have c3 := H0.c3
  have c4 := H0.c4
  have HR0 : Hid (W0.heap[w.heap.size + 1 + 1]? = some (.cells #[.int .i64 0, .int .i64 0, .string ⟨#[]⟩] 53)) := H0.r
  clear H0
  have e32 := eg32
  have e33 := eg33
  have e35 := eg35
  have hmf : ∀ (fn : Fn) (first cap : Array Value) (w : World), (Instr.makeFunc fn first cap).run Tryz.prog w = .ok (.func fn first cap) w := fun _ _ _ _ => rfl
  have hcl := letter_any W0 (s[n]'hn)
  have hcd := digit_any W0 (s[n]'hn)
  rw [hl] at hcl
  rw [hd] at hcd
  clear hl hd
  have hdl : (s.data.toList.drop n).length = s.size - n := by rw [List.length_drop]; rfl
  have hI := ib_any (s.extract n s.size) 93 W0
  rw [Lib.extract_data, List.take_of_length_le (by rw [hdl]; omega)] at hI
  have hi : Lib.indexByte (s.data.toList.drop n) (93 : Int).toNat.toUInt8 = -1 := by
    have e93 : (93 : Int).toNat.toUInt8 = 93 := rfl
    rw [e93]
    by_cases hm : Lib.indexByte (s.data.toList.drop n) 93 = -1
    · exact hm
    · have hge := Lib.indexByte_ge (s.data.toList.drop n) 93
      obtain ⟨j, hj⟩ := Int.eq_ofNat_of_zero_le (show 0 ≤ Lib.indexByte (s.data.toList.drop n) 93 by omega)
      obtain ⟨y, hy, hyl⟩ := upto_some hj
      rw [hx] at hy
      cases hy
  rw [hi] at hI
  have hz : ((s[n].toNat : Int) == 91) = true := by rw [h91]; rfl
  have hn0 : (0 : Int) ≤ (n : Int) := by omega
  have hns : (n : Int) ≤ (s.size : Int) := by omega
  clear hx hdl hi h91 e35 HR0
  go_enter Tryz.func15, Tryz.ntmps15
  go_wp2_with fail
  rw [← HW0.out]
  refine hcl.mono ?_
  rintro e w' ⟨rfl, hw'⟩
  obtain rfl := hw'.symm
  clear hcl
  go_wp2_with fail
  refine hcd.mono ?_
  rintro e w' ⟨rfl, hw'⟩
  obtain rfl := hw'.symm
  clear hcd
  go_wp2_with fail
  refine hI.mono ?_
  rintro e w' ⟨rfl, hw'⟩
  obtain rfl := hw'.symm
  clear hI
  go_wp2_with fail
  refine (wrong_any 3 n W0).mono ?_
  rintro e w' ⟨rfl, rfl⟩
  go_wp2_with fail
  exact ⟨rfl, ⟨W0.heap.size, by rw [hz0], heap_alloc_new _ _, by omega, by simp⟩, hb0.alloc (by omega) _⟩

set_option maxHeartbeats 1000000 in
set_option maxRecDepth 100000 in
theorem tokenAt_none (s : ByteArray) (n : Nat) (_hs : s.size ≤ 1000000) (hn : n < s.size) (hl : RP.letter s[n] = false) (hd : RP.digit s[n] = false) (h91 : s[n] ≠ 91) (hm : RP.marks.contains s[n] = false) (w : World) :
    Calls Tryz.prog 15 #[.string s, .int .i64 n] w fun e w' => Throws w 3 n e w' ∧ Below w.heap.size w w' := by
  obtain ⟨W0, HW0, H0⟩ : ∃ W0, Hid (W0 = ((((w.alloc (.cells #[.string s] 9)).alloc (.cells #[.int .i64 n] 3)).alloc (.cells #[.int .i64 0, .int .i64 0, .string ⟨#[]⟩] 53)).alloc (.cells #[.func (.func 32) #[] #[]] 72)).alloc (.cells #[.func (.func 33) #[] #[]] 72)) ∧ At0 s n w W0 := ⟨_, rfl, at0 s n w⟩
  have hb0 := H0.below
  have hz0 := H0.size
  have c0 := H0.c0
  have c1 := H0.c1
  have c3 := H0.c3
  have c4 := H0.c4
  have HR0 : Hid (W0.heap[w.heap.size + 1 + 1]? = some (.cells #[.int .i64 0, .int .i64 0, .string ⟨#[]⟩] 53)) := H0.r
  clear H0
  have e32 := eg32
  have e33 := eg33
  have e35 := eg35
  have hmf : ∀ (fn : Fn) (first cap : Array Value) (w : World), (Instr.makeFunc fn first cap).run Tryz.prog w = .ok (.func fn first cap) w := fun _ _ _ _ => rfl
  have hcl := letter_any W0 (s[n]'hn)
  have hcd := digit_any W0 (s[n]'hn)
  rw [hl] at hcl
  rw [hd] at hcd
  clear hl hd
  have hI := ib_any ⟨#[61, 59, 58, 124, 38, 45, 126, 40, 41, 46, 42, 43, 63, 123, 125, 44, 36]⟩ (s[n].toNat : Int) W0
  have hge : ¬ 0 ≤ Lib.indexByte RP.marks s[n] := by rw [Lib.contains_iff_indexByte] at hm; simpa using hm
  have ec : ((s[n].toNat : Int)).toNat.toUInt8 = s[n] := by simp
  rw [ec] at hI
  change Calls Tryz.prog 36 _ W0 (fun e w' => e = .returned (.int .i64 (Lib.indexByte RP.marks s[n])) ∧ w' = W0) at hI
  generalize Lib.indexByte RP.marks s[n] = ix at hI hge
  have hz : ((s[n].toNat : Int) == 91) = false := by
    have := u8_eq s[n] 91 (by omega)
    rw [show ((91 : Nat) : Int) = 91 from rfl] at this
    rw [← this]
    simpa using h91
  clear ec hm h91 e35 HR0
  go_enter Tryz.func15, Tryz.ntmps15
  go_wp2_with fail
  rw [← HW0.out]
  refine hcl.mono ?_
  rintro e w' ⟨rfl, hw'⟩
  obtain rfl := hw'.symm
  clear hcl
  go_wp2_with fail
  refine hcd.mono ?_
  rintro e w' ⟨rfl, hw'⟩
  obtain rfl := hw'.symm
  clear hcd
  go_wp2_with fail
  refine hI.mono ?_
  rintro e w' ⟨rfl, hw'⟩
  obtain rfl := hw'.symm
  clear hI
  go_wp2_with fail
  refine (wrong_any 3 n W0).mono ?_
  rintro e w' ⟨rfl, rfl⟩
  go_wp2_with fail
  exact ⟨rfl, ⟨W0.heap.size, by rw [hz0], heap_alloc_new _ _, by omega, by simp⟩, hb0.alloc (by omega) _⟩

end Go.Proofs.YtjbmdnkpfkelmaaGreatDoor.Q
