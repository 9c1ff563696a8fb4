/- The contract of rule.tokenAt. -/
import Derived.Test.YtjbdlihlcoldlaaGreatDoorG14
import Derived.Lib.Strings
import Derived.Lib.IndexAny
import Derived.Lib.IndexLaws
import Derived.Maps.OwnSet
import Derived.StringKeys
import Derived.Maps.AppendAt
import Derived.Lib.IndexBytes
import Derived.Test.YtjbdlihlcoldlaaGreatDoorG00
namespace Go.Proofs.YtjbdlihlcoldlaaGreatDoor.Q
open Go.RowKit Go.Shelf

theorem ba_of {a : ByteArray} {l : List UInt8} (h : a.data.toList = l) : a = ⟨l.toArray⟩ := by
  apply ByteArray.ext
  simp [← h]

theorem cut_text (s : ByteArray) (n k : Nat) (p : UInt8 → Bool) (hk : k = n + ((s.data.toList.drop n).takeWhile p).length) : s.extract n k = ⟨((s.data.toList.drop n).takeWhile p).toArray⟩ := by
  refine ba_of ?_
  rw [Lib.extract_data, hk, Nat.add_sub_cancel_left]
  exact (List.prefix_iff_eq_take.1 (List.takeWhile_prefix (l := s.data.toList.drop n) p)).symm

theorem cut_take (s : ByteArray) (n k : Nat) (x : List UInt8) (hx : (s.data.toList.drop n).take x.length = x) (hk : k = n + x.length) : s.extract n k = ⟨x.toArray⟩ := by
  refine ba_of ?_
  rw [Lib.extract_data, hk, Nat.add_sub_cancel_left, hx]

theorem upto_none {r : List UInt8} (h : Lib.indexByte r 93 = -1) : RP.upto93 r = none := by
  induction r with
  | nil => rfl
  | cons c r ih =>
    rw [Lib.indexByte] at h
    rw [RP.upto93]
    by_cases hc : c = 93
    · rw [if_pos (by simpa using hc)] at h; omega
    · rw [if_neg (by simpa using hc)] at h
      rw [if_neg hc]
      split at h
      · rename_i h1
        rw [ih (by simpa using h1)]; rfl
      · have := Lib.indexByte_ge r 93
        rename_i h1
        simp at h1
        omega

theorem upto_some : ∀ {r : List UInt8} {i : Nat}, Lib.indexByte r 93 = i → ∃ x, RP.upto93 r = some x ∧ x.length = i + 1 := by
  intro r
  induction r with
  | nil => intro i h; rw [Lib.indexByte] at h; omega
  | cons c r ih =>
    intro i h
    rw [Lib.indexByte] at h
    rw [RP.upto93]
    by_cases hc : c = 93
    · rw [if_pos (by simpa using hc)] at h
      rw [if_pos hc]
      exact ⟨[c], rfl, by simp; omega⟩
    · rw [if_neg (by simpa using hc)] at h
      rw [if_neg hc]
      split at h
      · omega
      · have h2 := Lib.indexByte_ge r 93
        rename_i h1
        simp at h1
        obtain ⟨x, hx, hl⟩ := ih (show Lib.indexByte r 93 = ((i - 1 : Nat) : Int) by omega)
        exact ⟨c :: x, by rw [hx]; rfl, by simp; omega⟩

theorem row3 {w : World} {b : Nat} {x y z : Value} {t : TypeId} (h : w.heap[b]? = some (.cells #[x, y, z] t)) :
    w.cell? ⟨b, 0, none⟩ = some x ∧ w.cell? ⟨b, 1, none⟩ = some y ∧ w.cell? ⟨b, 2, none⟩ = some z ∧ w.frozen? ⟨b, 0, none⟩ = false ∧ w.frozen? ⟨b, 1, none⟩ = false ∧ w.frozen? ⟨b, 2, none⟩ = false :=
  ⟨cell_of_row w b 0 _ _ _ h, cell_of_row w b 1 _ _ _ h, cell_of_row w b 2 _ _ _ h, frozen_of_row w b 0 _ _ h, frozen_of_row w b 1 _ _ h, frozen_of_row w b 2 _ _ h⟩

theorem row3_set {w : World} {b : Nat} {x y z : Value} {t : TypeId} (h : w.heap[b]? = some (.cells #[x, y, z] t)) (u v q : Value) :
    (((w.setCell ⟨b, 0, none⟩ u).setCell ⟨b, 1, none⟩ v).setCell ⟨b, 2, none⟩ q).heap[b]? = some (.cells #[u, v, q] t) := by
  have h1 := heap_setCell_same w b 0 _ t u h
  have h2 := heap_setCell_same _ b 1 _ t v h1
  have h3 := heap_setCell_same _ b 2 _ t q h2
  exact h3

theorem size53 : (Tryz.prog.info? 191).map (·.size) = some 3 := by kernel_rfl

/-- The world in which tokenAt begins to look. -/
structure At0 (s : ByteArray) (n : Nat) (w W : World) : Prop where
  below : Below w.heap.size w W
  size : W.heap.size = w.heap.size + 1 + 1 + 1 + 1 + 1
  c0 : W.cell? ⟨w.heap.size, 0, none⟩ = some (.string s)
  c1 : W.cell? ⟨w.heap.size + 1, 0, none⟩ = some (.int .i64 n)
  r : W.heap[w.heap.size + 1 + 1]? = some (.cells #[.int .i64 0, .int .i64 0, .string ⟨#[]⟩] 191)
  c3 : W.cell? ⟨w.heap.size + 1 + 1 + 1, 0, none⟩ = some (.func (.func 163) #[] #[])
  c4 : W.cell? ⟨w.heap.size + 1 + 1 + 1 + 1, 0, none⟩ = some (.func (.func 164) #[] #[])

theorem at0 (s : ByteArray) (n : Nat) (w : World) : At0 s n w (((((w.alloc (.cells #[.string s] 9)).alloc (.cells #[.int .i64 n] 3)).alloc (.cells #[.int .i64 0, .int .i64 0, .string ⟨#[]⟩] 191)).alloc (.cells #[.func (.func 163) #[] #[]] 176)).alloc (.cells #[.func (.func 164) #[] #[]] 176)) := by
  have h0 : ∀ A B C D E : Obj, (((((w.alloc A).alloc B).alloc C).alloc D).alloc E).heap[w.heap.size]? = some A := fun A B C D E => by
    rw [heap_alloc_old _ _ (by simp <;> omega), heap_alloc_old _ _ (by simp <;> omega), heap_alloc_old _ _ (by simp <;> omega), heap_alloc_old _ _ (by simp <;> omega)]; exact heap_alloc_new _ _
  have h1 : ∀ A B C D E : Obj, (((((w.alloc A).alloc B).alloc C).alloc D).alloc E).heap[w.heap.size + 1]? = some B := fun A B C D E => by
    rw [heap_alloc_old _ _ (by simp <;> omega), heap_alloc_old _ _ (by simp <;> omega), heap_alloc_old _ _ (by simp <;> omega)]; simpa using heap_alloc_new (w.alloc A) B
  have h2 : ∀ A B C D E : Obj, (((((w.alloc A).alloc B).alloc C).alloc D).alloc E).heap[w.heap.size + 1 + 1]? = some C := fun A B C D E => by
    rw [heap_alloc_old _ _ (by simp <;> omega), heap_alloc_old _ _ (by simp <;> omega)]; simpa using heap_alloc_new ((w.alloc A).alloc B) C
  have h3 : ∀ A B C D E : Obj, (((((w.alloc A).alloc B).alloc C).alloc D).alloc E).heap[w.heap.size + 1 + 1 + 1]? = some D := fun A B C D E => by
    rw [heap_alloc_old _ _ (by simp <;> omega)]; simpa using heap_alloc_new (((w.alloc A).alloc B).alloc C) D
  have h4 : ∀ A B C D E : Obj, (((((w.alloc A).alloc B).alloc C).alloc D).alloc E).heap[w.heap.size + 1 + 1 + 1 + 1]? = some E := fun A B C D E => by
    simpa using heap_alloc_new ((((w.alloc A).alloc B).alloc C).alloc D) E
  exact ⟨(((((Below.refl _ w).alloc (Nat.le_refl _) _).alloc (by simp) _).alloc (by simp; omega) _).alloc (by simp; omega) _).alloc (by simp; omega) _, by simp, cell_of_row _ _ 0 _ _ _ (h0 _ _ _ _ _), cell_of_row _ _ 0 _ _ _ (h1 _ _ _ _ _), h2 _ _ _ _ _, cell_of_row _ _ 0 _ _ _ (h3 _ _ _ _ _), cell_of_row _ _ 0 _ _ _ (h4 _ _ _ _ _)⟩

/-- An error of the program's own is thrown. -/
def Throws (w : World) (en pl : Int) (e : Ending) (w' : World) : Prop :=
  ∃ b, e = .panicked [{ v := .iface 96 (.pointer (some ⟨b, 0, none⟩)), recovered := false }] ∧ w'.heap[b]? = some (.cells #[.int .i64 en, .int .i64 pl] 98) ∧ w.heap.size ≤ b ∧ b < w'.heap.size

set_option maxHeartbeats 1000000 in
set_option maxRecDepth 100000 in
theorem tokenAt_letter (s : ByteArray) (n : Nat) (hs : s.size ≤ 1000000) (hn : n < s.size) (hl : RP.letter s[n] = true) (w : World) :
    Calls Tryz.prog 107 #[.string s, .int .i64 n] w fun e w' => e = .returned (tokV 1 n ⟨((s.data.toList.drop n).takeWhile RP.either).toArray⟩) ∧ Below w.heap.size w w' := by
  obtain ⟨W0, HW0, H0⟩ : ∃ W0, Hid (W0 = ((((w.alloc (.cells #[.string s] 9)).alloc (.cells #[.int .i64 n] 3)).alloc (.cells #[.int .i64 0, .int .i64 0, .string ⟨#[]⟩] 191)).alloc (.cells #[.func (.func 163) #[] #[]] 176)).alloc (.cells #[.func (.func 164) #[] #[]] 176)) ∧ At0 s n w W0 := ⟨_, rfl, at0 s n w⟩
  have hb0 := H0.below
  have hz0 := H0.size
  have c0 := H0.c0
  have c1 := H0.c1
  have c3 := H0.c3
  have c4 := H0.c4
  have HR0 : Hid (W0.heap[w.heap.size + 1 + 1]? = some (.cells #[.int .i64 0, .int .i64 0, .string ⟨#[]⟩] 191)) := H0.r
  clear H0
  have e32 := eg32
  have e33 := eg33
  have e35 := eg35
  have hmf : ∀ (fn : Fn) (first cap : Array Value) (w : World), (Instr.makeFunc fn first cap).run Tryz.prog w = .ok (.func fn first cap) w := fun _ _ _ _ => rfl
  have hcl := letter_any W0 (s[n]'hn)
  have hcd := digit_any W0 (s[n]'hn)
  rw [hl] at hcl
  have hP := past_any 165 #[.pointer (some ⟨w.heap.size + 1 + 1 + 1, 0, none⟩), .pointer (some ⟨w.heap.size + 1 + 1 + 1 + 1, 0, none⟩)] eg34 RP.either s n hs (by omega) W0 (either_any W0 _ _ c3 c4)
  clear hcd hl
  go_enter Tryz.func107, Tryz.ntmps107
  go_wp2_with fail
  rw [← HW0.out]
  refine hcl.mono ?_
  rintro e w' ⟨rfl, hw'⟩
  obtain rfl := hw'.symm
  clear hcl
  go_wp2_with fail
  refine hP.mono ?_
  rintro e w' ⟨⟨k, rfl, hk1, hk2, -, hk⟩, hw'⟩
  obtain rfl := hw'.symm
  have HC := cut_any 1 n k s w.heap.size (w.heap.size + 1) W0 (by omega) (by omega) hs hk1 hk2 c0 c1
  rw [cut_text s n k RP.either hk] at HC
  clear hP hk
  go_wp2_with fail
  refine HC.mono ?_
  rintro e w2 ⟨rfl, hb2⟩
  have hb3 : Below w.heap.size w w2 := hb0.trans (hb2.mono (by omega))
  have HR2 : Hid (w2.heap[w.heap.size + 1 + 1]? = some (.cells #[.int .i64 0, .int .i64 0, .string ⟨#[]⟩] 191)) := (hb2.block _ (by omega)).trans HR0.out
  obtain ⟨q0, q1, q2, f0, f1, f2⟩ := row3 HR2.out
  clear hb2 HC c0 c1 c3 c4
  unfold tokV
  go_wp2_with fail
  refine bodyPost_ret (results_cell_row rfl _ _ (w.heap.size + 1 + 1) 191 #[_, _, _] _ _ rfl (row3_set HR2.out _ _ _) Tryz.underlying191 rfl size53) rfl ?_
  exact ⟨rfl, ((hb3.setCell (p := ⟨w.heap.size + 1 + 1, 0, none⟩) (by show w.heap.size ≤ w.heap.size + 1 + 1; omega) _).setCell (p := ⟨w.heap.size + 1 + 1, 1, none⟩) (by show w.heap.size ≤ w.heap.size + 1 + 1; omega) _).setCell (p := ⟨w.heap.size + 1 + 1, 2, none⟩) (by show w.heap.size ≤ w.heap.size + 1 + 1; omega) _⟩

set_option maxHeartbeats 1000000 in
set_option maxRecDepth 100000 in
theorem tokenAt_digit (s : ByteArray) (n : Nat) (hs : s.size ≤ 1000000) (hn : n < s.size) (hl : RP.letter s[n] = false) (hd : RP.digit s[n] = true) (w : World) :
    Calls Tryz.prog 107 #[.string s, .int .i64 n] w fun e w' => e = .returned (tokV 2 n ⟨((s.data.toList.drop n).takeWhile RP.digit).toArray⟩) ∧ Below w.heap.size w w' := by
  obtain ⟨W0, HW0, H0⟩ : ∃ W0, Hid (W0 = ((((w.alloc (.cells #[.string s] 9)).alloc (.cells #[.int .i64 n] 3)).alloc (.cells #[.int .i64 0, .int .i64 0, .string ⟨#[]⟩] 191)).alloc (.cells #[.func (.func 163) #[] #[]] 176)).alloc (.cells #[.func (.func 164) #[] #[]] 176)) ∧ At0 s n w W0 := ⟨_, rfl, at0 s n w⟩
  have hb0 := H0.below
  have hz0 := H0.size
  have c0 := H0.c0
  have c1 := H0.c1
  have c3 := H0.c3
  have c4 := H0.c4
  have HR0 : Hid (W0.heap[w.heap.size + 1 + 1]? = some (.cells #[.int .i64 0, .int .i64 0, .string ⟨#[]⟩] 191)) := H0.r
  clear H0
  have e32 := eg32
  have e33 := eg33
  have e35 := eg35
  have hmf : ∀ (fn : Fn) (first cap : Array Value) (w : World), (Instr.makeFunc fn first cap).run Tryz.prog w = .ok (.func fn first cap) w := fun _ _ _ _ => rfl
  have hcl := letter_any W0 (s[n]'hn)
  have hcd := digit_any W0 (s[n]'hn)
  rw [hl] at hcl
  rw [hd] at hcd
  have hP := past_any 164 #[] eg33 RP.digit s n hs (by omega) W0 (digit_any W0)
  clear hl hd
  go_enter Tryz.func107, Tryz.ntmps107
  go_wp2_with fail
  rw [← HW0.out]
  refine hcl.mono ?_
  rintro e w' ⟨rfl, hw'⟩
  obtain rfl := hw'.symm
  clear hcl
  go_wp2_with fail
  refine hcd.mono ?_
  rintro e w' ⟨rfl, hw'⟩
  obtain rfl := hw'.symm
  clear hcd
  go_wp2_with fail
  refine hP.mono ?_
  rintro e w' ⟨⟨k, rfl, hk1, hk2, -, hk⟩, hw'⟩
  obtain rfl := hw'.symm
  have HC := cut_any 2 n k s w.heap.size (w.heap.size + 1) W0 (by omega) (by omega) hs hk1 hk2 c0 c1
  rw [cut_text s n k RP.digit hk] at HC
  clear hP hk
  go_wp2_with fail
  refine HC.mono ?_
  rintro e w2 ⟨rfl, hb2⟩
  have hb3 : Below w.heap.size w w2 := hb0.trans (hb2.mono (by omega))
  have HR2 : Hid (w2.heap[w.heap.size + 1 + 1]? = some (.cells #[.int .i64 0, .int .i64 0, .string ⟨#[]⟩] 191)) := (hb2.block _ (by omega)).trans HR0.out
  obtain ⟨q0, q1, q2, f0, f1, f2⟩ := row3 HR2.out
  clear hb2 HC c0 c1 c3 c4
  unfold tokV
  go_wp2_with fail
  refine bodyPost_ret (results_cell_row rfl _ _ (w.heap.size + 1 + 1) 191 #[_, _, _] _ _ rfl (row3_set HR2.out _ _ _) Tryz.underlying191 rfl size53) rfl ?_
  exact ⟨rfl, ((hb3.setCell (p := ⟨w.heap.size + 1 + 1, 0, none⟩) (by show w.heap.size ≤ w.heap.size + 1 + 1; omega) _).setCell (p := ⟨w.heap.size + 1 + 1, 1, none⟩) (by show w.heap.size ≤ w.heap.size + 1 + 1; omega) _).setCell (p := ⟨w.heap.size + 1 + 1, 2, none⟩) (by show w.heap.size ≤ w.heap.size + 1 + 1; omega) _⟩

theorem ib_any (s : ByteArray) (c : Int) (w : World) : Calls Tryz.prog 150 #[.string s, .int .u8 c] w fun e w' => e = .returned (.int .i64 (Lib.indexByte s.data.toList c.toNat.toUInt8)) ∧ w' = w := Any.strings_IndexByte Tryz.ibL s c w

set_option maxHeartbeats 1000000 in
set_option maxRecDepth 100000 in
theorem tokenAt_set (s : ByteArray) (n : Nat) (hs : s.size ≤ 1000000) (hn : n < s.size) (hl : RP.letter s[n] = false) (hd : RP.digit s[n] = false) (h91 : s[n] = 91) (x : List UInt8) (hx : RP.upto93 (s.data.toList.drop n) = some x) (w : World) :
    Calls Tryz.prog 107 #[.string s, .int .i64 n] w fun e w' => e = .returned (tokV 3 n ⟨x.toArray⟩) ∧ Below w.heap.size w w' := by
  obtain ⟨W0, HW0, H0⟩ : ∃ W0, Hid (W0 = ((((w.alloc (.cells #[.string s] 9)).alloc (.cells #[.int .i64 n] 3)).alloc (.cells #[.int .i64 0, .int .i64 0, .string ⟨#[]⟩] 191)).alloc (.cells #[.func (.func 163) #[] #[]] 176)).alloc (.cells #[.func (.func 164) #[] #[]] 176)) ∧ At0 s n w W0 := ⟨_, rfl, at0 s n w⟩
  have hb0 := H0.below
  have hz0 := H0.size
  have c0 := H0.c0
  have c1 := H0.c1
  have c3 := H0.c3
  have c4 := H0.c4
  have HR0 : Hid (W0.heap[w.heap.size + 1 + 1]? = some (.cells #[.int .i64 0, .int .i64 0, .string ⟨#[]⟩] 191)) := H0.r
  clear H0
  have e32 := eg32
  have e33 := eg33
  have e35 := eg35
  have hmf : ∀ (fn : Fn) (first cap : Array Value) (w : World), (Instr.makeFunc fn first cap).run Tryz.prog w = .ok (.func fn first cap) w := fun _ _ _ _ => rfl
  have hcl := letter_any W0 (s[n]'hn)
  have hcd := digit_any W0 (s[n]'hn)
  rw [hl] at hcl
  rw [hd] at hcd
  clear hl hd
  have hxl := RP.upto93_len hx
  have hdl : (s.data.toList.drop n).length = s.size - n := by rw [List.length_drop]; rfl
  have hI := ib_any (s.extract n s.size) 93 W0
  rw [Lib.extract_data, List.take_of_length_le (by rw [hdl]; omega)] at hI
  obtain ⟨i, hi, hil⟩ : ∃ i : Nat, Lib.indexByte (s.data.toList.drop n) (93 : Int).toNat.toUInt8 = i ∧ x.length = i + 1 := by
    have e93 : (93 : Int).toNat.toUInt8 = 93 := rfl
    rw [e93]
    by_cases hm : Lib.indexByte (s.data.toList.drop n) 93 = -1
    · rw [upto_none hm] at hx; cases hx
    · have hge := Lib.indexByte_ge (s.data.toList.drop n) 93
      obtain ⟨j, hj⟩ := Int.eq_ofNat_of_zero_le (show 0 ≤ Lib.indexByte (s.data.toList.drop n) 93 by omega)
      obtain ⟨y, hy, hyl⟩ := upto_some hj
      rw [hx] at hy
      cases hy
      exact ⟨j, hj, hyl⟩
  rw [hi] at hI
  have hz : ((s[n].toNat : Int) == 91) = true := by rw [h91]; rfl
  have HC := cut_any 3 n (n + i + 1) s w.heap.size (w.heap.size + 1) W0 (by omega) (by omega) hs (by omega) (by omega) c0 c1
  rw [cut_take s n (n + i + 1) x hxl.2.2 (by omega)] at HC
  have hib : n + i + 1 ≤ 1000000 := by omega
  have hn0 : (0 : Int) ≤ (n : Int) := by omega
  have hns : (n : Int) ≤ (s.size : Int) := by omega
  push_cast at HC
  clear hx hxl hdl hi hil h91
  go_enter Tryz.func107, Tryz.ntmps107
  go_wp2_with fail
  rw [← HW0.out]
  refine hcl.mono ?_
  rintro e w' ⟨rfl, hw'⟩
  obtain rfl := hw'.symm
  clear hcl
  go_wp2_with fail
  refine hcd.mono ?_
  rintro e w' ⟨rfl, hw'⟩
  obtain rfl := hw'.symm
  clear hcd
  go_wp2_with fail
  refine hI.mono ?_
  rintro e w' ⟨rfl, hw'⟩
  obtain rfl := hw'.symm
  clear hI
  go_wp2_with fail
  refine HC.mono ?_
  rintro e w2 ⟨rfl, hb2⟩
  have hb3 : Below w.heap.size w w2 := hb0.trans (hb2.mono (by omega))
  have HR2 : Hid (w2.heap[w.heap.size + 1 + 1]? = some (.cells #[.int .i64 0, .int .i64 0, .string ⟨#[]⟩] 191)) := (hb2.block _ (by omega)).trans HR0.out
  obtain ⟨q0, q1, q2, f0, f1, f2⟩ := row3 HR2.out
  clear hb2 HC c0 c1 c3 c4
  unfold tokV
  go_wp2_with fail
  refine bodyPost_ret (results_cell_row rfl _ _ (w.heap.size + 1 + 1) 191 #[_, _, _] _ _ rfl (row3_set HR2.out _ _ _) Tryz.underlying191 rfl size53) rfl ?_
  exact ⟨rfl, ((hb3.setCell (p := ⟨w.heap.size + 1 + 1, 0, none⟩) (by show w.heap.size ≤ w.heap.size + 1 + 1; omega) _).setCell (p := ⟨w.heap.size + 1 + 1, 1, none⟩) (by show w.heap.size ≤ w.heap.size + 1 + 1; omega) _).setCell (p := ⟨w.heap.size + 1 + 1, 2, none⟩) (by show w.heap.size ≤ w.heap.size + 1 + 1; omega) _⟩

set_option maxHeartbeats 1000000 in
set_option maxRecDepth 100000 in
theorem tokenAt_mark (s : ByteArray) (n : Nat) (hs : s.size ≤ 1000000) (hn : n < s.size) (hl : RP.letter s[n] = false) (hd : RP.digit s[n] = false) (h91 : s[n] ≠ 91) (hm : RP.marks.contains s[n] = true) (w : World) :
    Calls Tryz.prog 107 #[.string s, .int .i64 n] w fun e w' => e = .returned (tokV 4 n ⟨#[s[n]]⟩) ∧ Below w.heap.size w w' := by
  obtain ⟨W0, HW0, H0⟩ : ∃ W0, Hid (W0 = ((((w.alloc (.cells #[.string s] 9)).alloc (.cells #[.int .i64 n] 3)).alloc (.cells #[.int .i64 0, .int .i64 0, .string ⟨#[]⟩] 191)).alloc (.cells #[.func (.func 163) #[] #[]] 176)).alloc (.cells #[.func (.func 164) #[] #[]] 176)) ∧ At0 s n w W0 := ⟨_, rfl, at0 s n w⟩
  have hb0 := H0.below
  have hz0 := H0.size
  have c0 := H0.c0
  have c1 := H0.c1
  have c3 := H0.c3
  have c4 := H0.c4
  have HR0 : Hid (W0.heap[w.heap.size + 1 + 1]? = some (.cells #[.int .i64 0, .int .i64 0, .string ⟨#[]⟩] 191)) := H0.r
  clear H0
  have e32 := eg32
  have e33 := eg33
  have e35 := eg35
  have hmf : ∀ (fn : Fn) (first cap : Array Value) (w : World), (Instr.makeFunc fn first cap).run Tryz.prog w = .ok (.func fn first cap) w := fun _ _ _ _ => rfl
  have hcl := letter_any W0 (s[n]'hn)
  have hcd := digit_any W0 (s[n]'hn)
  rw [hl] at hcl
  rw [hd] at hcd
  clear hl hd
  have hI := ib_any ⟨#[61, 59, 58, 124, 38, 45, 126, 40, 41, 46, 42, 43, 63, 123, 125, 44, 36]⟩ (s[n].toNat : Int) W0
  have hge : 0 ≤ Lib.indexByte RP.marks s[n] := by rw [Lib.contains_iff_indexByte] at hm; simpa using hm
  have ec : ((s[n].toNat : Int)).toNat.toUInt8 = s[n] := by simp
  rw [ec] at hI
  change Calls Tryz.prog 150 _ W0 (fun e w' => e = .returned (.int .i64 (Lib.indexByte RP.marks s[n])) ∧ w' = W0) at hI
  generalize Lib.indexByte RP.marks s[n] = ix at hI hge
  have hz : ((s[n].toNat : Int) == 91) = false := by
    have := u8_eq s[n] 91 (by omega)
    rw [show ((91 : Nat) : Int) = 91 from rfl] at this
    rw [← this]
    simpa using h91
  have HC := cut_any 4 n (n + 1) s w.heap.size (w.heap.size + 1) W0 (by omega) (by omega) hs (by omega) (by omega) c0 c1
  have htx : s.extract n (n + 1) = ⟨#[s[n]]⟩ := by
    have h1 := cut_take s n (n + 1) [s[n]] (by rw [drop_byte s n hn]; rfl) rfl
    exact h1
  rw [htx] at HC
  push_cast at HC
  clear ec hm h91 htx
  go_enter Tryz.func107, Tryz.ntmps107
  go_wp2_with fail
  rw [← HW0.out]
  refine hcl.mono ?_
  rintro e w' ⟨rfl, hw'⟩
  obtain rfl := hw'.symm
  clear hcl
  go_wp2_with fail
  refine hcd.mono ?_
  rintro e w' ⟨rfl, hw'⟩
  obtain rfl := hw'.symm
  clear hcd
  go_wp2_with fail
  refine hI.mono ?_
  rintro e w' ⟨rfl, hw'⟩
  obtain rfl := hw'.symm
  clear hI
  go_wp2_with fail
  refine HC.mono ?_
  rintro e w2 ⟨rfl, hb2⟩
  have hb3 : Below w.heap.size w w2 := hb0.trans (hb2.mono (by omega))
  have HR2 : Hid (w2.heap[w.heap.size + 1 + 1]? = some (.cells #[.int .i64 0, .int .i64 0, .string ⟨#[]⟩] 191)) := (hb2.block _ (by omega)).trans HR0.out
  obtain ⟨q0, q1, q2, f0, f1, f2⟩ := row3 HR2.out
  clear hb2 HC c0 c1 c3 c4
  unfold tokV
  go_wp2_with fail
  refine bodyPost_ret (results_cell_row rfl _ _ (w.heap.size + 1 + 1) 191 #[_, _, _] _ _ rfl (row3_set HR2.out _ _ _) Tryz.underlying191 rfl size53) rfl ?_
  exact ⟨rfl, ((hb3.setCell (p := ⟨w.heap.size + 1 + 1, 0, none⟩) (by show w.heap.size ≤ w.heap.size + 1 + 1; omega) _).setCell (p := ⟨w.heap.size + 1 + 1, 1, none⟩) (by show w.heap.size ≤ w.heap.size + 1 + 1; omega) _).setCell (p := ⟨w.heap.size + 1 + 1, 2, none⟩) (by show w.heap.size ≤ w.heap.size + 1 + 1; omega) _⟩

set_option maxHeartbeats 1000000 in
set_option maxRecDepth 100000 in
theorem tokenAt_open (s : ByteArray) (n : Nat) (_hs : s.size ≤ 1000000) (hn : n < s.size) (hl : RP.letter s[n] = false) (hd : RP.digit s[n] = false) (h91 : s[n] = 91) (hx : RP.upto93 (s.data.toList.drop n) = none) (w : World) :
    Calls Tryz.prog 107 #[.string s, .int .i64 n] w fun e w' => Throws w 3 n e w' ∧ Below w.heap.size w w' := by
  obtain ⟨W0, HW0, H0⟩ : ∃ W0, Hid (W0 = ((((w.alloc (.cells #[.string s] 9)).alloc (.cells #[.int .i64 n] 3)).alloc (.cells #[.int .i64 0, .int .i64 0, .string ⟨#[]⟩] 191)).alloc (.cells #[.func (.func 163) #[] #[]] 176)).alloc (.cells #[.func (.func 164) #[] #[]] 176)) ∧ At0 s n w W0 := ⟨_, rfl, at0 s n w⟩
  have hb0 := H0.below
  have hz0 := H0.size
  have c0 := H0.c0
  have c1 := H0.c1
  have c3 := H0.c3
  have c4 := H0.c4
  have HR0 : Hid (W0.heap[w.heap.size + 1 + 1]? = some (.cells #[.int .i64 0, .int .i64 0, .string ⟨#[]⟩] 191)) := H0.r
  clear H0
  have e32 := eg32
  have e33 := eg33
  have e35 := eg35
  have hmf : ∀ (fn : Fn) (first cap : Array Value) (w : World), (Instr.makeFunc fn first cap).run Tryz.prog w = .ok (.func fn first cap) w := fun _ _ _ _ => rfl
  have hcl := letter_any W0 (s[n]'hn)
  have hcd := digit_any W0 (s[n]'hn)
  rw [hl] at hcl
  rw [hd] at hcd
  clear hl hd
  have hdl : (s.data.toList.drop n).length = s.size - n := by rw [List.length_drop]; rfl
  have hI := ib_any (s.extract n s.size) 93 W0
  rw [Lib.extract_data, List.take_of_length_le (by rw [hdl]; omega)] at hI
  have hi : Lib.indexByte (s.data.toList.drop n) (93 : Int).toNat.toUInt8 = -1 := by
    have e93 : (93 : Int).toNat.toUInt8 = 93 := rfl
    rw [e93]
    by_cases hm : Lib.indexByte (s.data.toList.drop n) 93 = -1
    · exact hm
    · have hge := Lib.indexByte_ge (s.data.toList.drop n) 93
      obtain ⟨j, hj⟩ := Int.eq_ofNat_of_zero_le (show 0 ≤ Lib.indexByte (s.data.toList.drop n) 93 by omega)
      obtain ⟨y, hy, hyl⟩ := upto_some hj
      rw [hx] at hy
      cases hy
  rw [hi] at hI
  have hz : ((s[n].toNat : Int) == 91) = true := by rw [h91]; rfl
  have hn0 : (0 : Int) ≤ (n : Int) := by omega
  have hns : (n : Int) ≤ (s.size : Int) := by omega
  clear hx hdl hi h91 e35 HR0
  go_enter Tryz.func107, Tryz.ntmps107
  go_wp2_with fail
  rw [← HW0.out]
  refine hcl.mono ?_
  rintro e w' ⟨rfl, hw'⟩
  obtain rfl := hw'.symm
  clear hcl
  go_wp2_with fail
  refine hcd.mono ?_
  rintro e w' ⟨rfl, hw'⟩
  obtain rfl := hw'.symm
  clear hcd
  go_wp2_with fail
  refine hI.mono ?_
  rintro e w' ⟨rfl, hw'⟩
  obtain rfl := hw'.symm
  clear hI
  go_wp2_with fail
  refine (wrong_any 3 n W0).mono ?_
  rintro e w' ⟨rfl, rfl⟩
  go_wp2_with fail
  exact ⟨rfl, ⟨W0.heap.size, by rw [hz0], heap_alloc_new _ _, by omega, by simp⟩, hb0.alloc (by omega) _⟩

set_option maxHeartbeats 1000000 in
set_option maxRecDepth 100000 in
theorem tokenAt_none (s : ByteArray) (n : Nat) (_hs : s.size ≤ 1000000) (hn : n < s.size) (hl : RP.letter s[n] = false) (hd : RP.digit s[n] = false) (h91 : s[n] ≠ 91) (hm : RP.marks.contains s[n] = false) (w : World) :
    Calls Tryz.prog 107 #[.string s, .int .i64 n] w fun e w' => Throws w 3 n e w' ∧ Below w.heap.size w w' := by
  obtain ⟨W0, HW0, H0⟩ : ∃ W0, Hid (W0 = ((((w.alloc (.cells #[.string s] 9)).alloc (.cells #[.int .i64 n] 3)).alloc (.cells #[.int .i64 0, .int .i64 0, .string ⟨#[]⟩] 191)).alloc (.cells #[.func (.func 163) #[] #[]] 176)).alloc (.cells #[.func (.func 164) #[] #[]] 176)) ∧ At0 s n w W0 := ⟨_, rfl, at0 s n w⟩
  have hb0 := H0.below
  have hz0 := H0.size
  have c0 := H0.c0
  have c1 := H0.c1
  have c3 := H0.c3
  have c4 := H0.c4
  have HR0 : Hid (W0.heap[w.heap.size + 1 + 1]? = some (.cells #[.int .i64 0, .int .i64 0, .string ⟨#[]⟩] 191)) := H0.r
  clear H0
  have e32 := eg32
  have e33 := eg33
  have e35 := eg35
  have hmf : ∀ (fn : Fn) (first cap : Array Value) (w : World), (Instr.makeFunc fn first cap).run Tryz.prog w = .ok (.func fn first cap) w := fun _ _ _ _ => rfl
  have hcl := letter_any W0 (s[n]'hn)
  have hcd := digit_any W0 (s[n]'hn)
  rw [hl] at hcl
  rw [hd] at hcd
  clear hl hd
  have hI := ib_any ⟨#[61, 59, 58, 124, 38, 45, 126, 40, 41, 46, 42, 43, 63, 123, 125, 44, 36]⟩ (s[n].toNat : Int) W0
  have hge : ¬ 0 ≤ Lib.indexByte RP.marks s[n] := by rw [Lib.contains_iff_indexByte] at hm; simpa using hm
  have ec : ((s[n].toNat : Int)).toNat.toUInt8 = s[n] := by simp
  rw [ec] at hI
  change Calls Tryz.prog 150 _ W0 (fun e w' => e = .returned (.int .i64 (Lib.indexByte RP.marks s[n])) ∧ w' = W0) at hI
  generalize Lib.indexByte RP.marks s[n] = ix at hI hge
  have hz : ((s[n].toNat : Int) == 91) = false := by
    have := u8_eq s[n] 91 (by omega)
    rw [show ((91 : Nat) : Int) = 91 from rfl] at this
    rw [← this]
    simpa using h91
  clear ec hm h91 e35 HR0
  go_enter Tryz.func107, Tryz.ntmps107
  go_wp2_with fail
  rw [← HW0.out]
  refine hcl.mono ?_
  rintro e w' ⟨rfl, hw'⟩
  obtain rfl := hw'.symm
  clear hcl
  go_wp2_with fail
  refine hcd.mono ?_
  rintro e w' ⟨rfl, hw'⟩
  obtain rfl := hw'.symm
  clear hcd
  go_wp2_with fail
  refine hI.mono ?_
  rintro e w' ⟨rfl, hw'⟩
  obtain rfl := hw'.symm
  clear hI
  go_wp2_with fail
  refine (wrong_any 3 n W0).mono ?_
  rintro e w' ⟨rfl, rfl⟩
  go_wp2_with fail
  exact ⟨rfl, ⟨W0.heap.size, by rw [hz0], heap_alloc_new _ _, by omega, by simp⟩, hb0.alloc (by omega) _⟩

end Go.Proofs.YtjbdlihlcoldlaaGreatDoor.Q

namespace Go.Proofs.YtjbdlihlcoldlaaGreatDoor.Q
open Go.RowKit Go.Shelf Go.Maps

theorem owns_mono {w : World} {B B' : Nat} {e : TypeId} {size : Nat} {v : Value} {n : Nat} {xs : List Value} (h : w.ownsRow B e size v n xs) (hB : B' ≤ B) : w.ownsRow B' e size v n xs := by
  obtain ⟨h1, h2 | ⟨g, cap, cur, rfl, hg, rest⟩⟩ := h
  · exact ⟨h1, Or.inl h2⟩
  · exact ⟨h1, Or.inr ⟨g, cap, cur, rfl, Nat.le_trans hB hg, rest⟩⟩

theorem owns_below {w w' : World} {base B : Nat} {e : TypeId} {size : Nat} {v : Value} {n : Nat} {xs : List Value} (h : w.ownsRow base e size v n xs) (hlt : ∀ g, v.ownBlock = some g → g < B) (hb : Below B w w') : w'.ownsRow base e size v n xs := by
  obtain ⟨h1, h2 | ⟨g, cap, cur, rfl, hg, hh, rest⟩⟩ := h
  · exact ⟨h1, Or.inl h2⟩
  · exact ⟨h1, Or.inr ⟨g, cap, cur, rfl, hg, (hb.block g (hlt g rfl)).trans hh, rest⟩⟩

theorem owns_later {w w' : World} {base : Nat} {e : TypeId} {size : Nat} {v : Value} {n : Nat} {xs : List Value} (h : w.ownsRow base e size v n xs) (hb : Below w.heap.size w w') : w'.ownsRow base e size v n xs :=
  owns_below h (fun g hg => (h.lt g hg).2) hb

/-- tokenAt, out of the token that stands there. -/
theorem tokenAt_ok (s : ByteArray) (n : Nat) (hs : s.size ≤ 1000000) (hn : n < s.size) (k : Nat) (x : List UInt8) (h : RP.tokenL (s.data.toList.drop n) = some (k, x)) (w : World) :
    Calls Tryz.prog 107 #[.string s, .int .i64 n] w fun e w' => e = .returned (tokV k n ⟨x.toArray⟩) ∧ Below w.heap.size w w' := by
  have hd := drop_byte s n hn
  rw [hd] at h
  unfold RP.tokenL at h
  simp only at h
  by_cases hl : RP.letter s[n] = true
  · rw [if_pos hl, ← hd] at h
    cases h
    exact tokenAt_letter s n hs hn hl w
  · rw [if_neg hl] at h
    replace hl := Bool.eq_false_iff.2 hl
    by_cases hg : RP.digit s[n] = true
    · rw [if_pos hg, ← hd] at h
      cases h
      exact tokenAt_digit s n hs hn hl hg w
    · rw [if_neg hg] at h
      replace hg := Bool.eq_false_iff.2 hg
      by_cases h91 : s[n] = 91
      · rw [if_pos h91, ← hd] at h
        obtain ⟨y, hy, e⟩ := Option.map_eq_some_iff.1 h
        cases e
        exact tokenAt_set s n hs hn hl hg h91 x hy w
      · rw [if_neg h91] at h
        by_cases hm : RP.marks.contains s[n] = true
        · rw [if_pos hm] at h
          cases h
          exact tokenAt_mark s n hs hn hl hg h91 hm w
        · rw [if_neg hm] at h
          cases h

/-- tokenAt, where there is none. -/
theorem tokenAt_bad (s : ByteArray) (n : Nat) (hs : s.size ≤ 1000000) (hn : n < s.size) (h : RP.tokenL (s.data.toList.drop n) = none) (w : World) :
    Calls Tryz.prog 107 #[.string s, .int .i64 n] w fun e w' => Throws w 3 n e w' ∧ Below w.heap.size w w' := by
  have hd := drop_byte s n hn
  rw [hd] at h
  unfold RP.tokenL at h
  simp only at h
  by_cases hl : RP.letter s[n] = true
  · rw [if_pos hl] at h; cases h
  · rw [if_neg hl] at h
    replace hl := Bool.eq_false_iff.2 hl
    by_cases hg : RP.digit s[n] = true
    · rw [if_pos hg] at h; cases h
    · rw [if_neg hg] at h
      replace hg := Bool.eq_false_iff.2 hg
      by_cases h91 : s[n] = 91
      · rw [if_pos h91, ← hd] at h
        exact tokenAt_open s n hs hn hl hg h91 (by simpa using h) w
      · rw [if_neg h91] at h
        by_cases hm : RP.marks.contains s[n] = true
        · rw [if_pos hm] at h; cases h
        · exact tokenAt_none s n hs hn hl hg h91 (Bool.eq_false_iff.2 hm) w

/-- The words that are no names, as the map reads. -/
def wordsD : DataW Unit := .map [(.string RP.wBreak, .lit (.int .i64 6)), (.string RP.wClass, .lit (.int .i64 5)), (.string RP.wElse, .lit (.int .i64 8)), (.string RP.wKeep, .lit (.int .i64 7))]

theorem words_made : ((((DataW.map [] : DataW Unit).put (.string RP.wClass) (.lit (.int .i64 5))).put (.string RP.wBreak) (.lit (.int .i64 6))).put (.string RP.wKeep) (.lit (.int .i64 7))).put (.string RP.wElse) (.lit (.int .i64 8)) = wordsD := by rfl

theorem words_look (k : Nat) (x : List UInt8) : (Maps.has wordsD (.string x) = false ∧ RP.kindOf k x = k) ∨ (Maps.has wordsD (.string x) = true ∧ wordsD.atKey (.string x) (.lit (.int .i64 0)) = .lit (.int .i64 (RP.kindOf k x : Nat))) := by
  by_cases h1 : x = RP.wClass
  · subst h1; exact .inr ⟨rfl, rfl⟩
  by_cases h2 : x = RP.wBreak
  · subst h2; exact .inr ⟨rfl, rfl⟩
  by_cases h3 : x = RP.wKeep
  · subst h3; exact .inr ⟨rfl, rfl⟩
  by_cases h4 : x = RP.wElse
  · subst h4; exact .inr ⟨rfl, rfl⟩
  refine .inl ⟨?_, ?_⟩
  · have e : ∀ y : List UInt8, y ≠ x → (Lit.string y).sameKey (.string x) = false := fun y h => by simpa [Lit.sameKey] using h
    simp [Maps.has, wordsD, e _ (Ne.symm h1), e _ (Ne.symm h2), e _ (Ne.symm h3), e _ (Ne.symm h4)]
  · unfold RP.kindOf
    rw [if_neg h1, if_neg h2, if_neg h3, if_neg h4]

/-- A map's literal, entry by entry. -/
theorem wpList_insert_own {H : Type} {P : Program} (w : World) {ops : Array Oper} {rest : List Oper} {o : Oper} {a : Act} {Q : Exit → Act → World → Prop}
    (hg : o.guard = none) (m x v : Operand) (t : TypeId) (hop : o.op = Op.insert t m x v)
    (k e : TypeId) (K : Keyed P k) (ht : P.underlying t = some (.map k e)) (R : Value → Option (DataW H × List MemPlace)) (b n : Nat) (D : DataW H)
    (hm : a.eval m = .map (some b)) (hown : w.ownsMap P k R b n D) (hn : n < maxLen) (key val : Value) (kl : Lit) (hx : a.eval x = key) (hv : a.eval v = val) (hkey : keyOf P k key = some kl)
    (d : DataW H) (ps : List MemPlace) (hval : R val = some (d, ps))
    (hK : ∀ w', w'.ownsMap P k R b (n + 1) (D.put kl d) → w.grownBy w' (some b) → wpList P ops Q rest (a.put o.dst undef) w') :
    wpList P ops Q (o :: rest) a w := by
  refine wpList_plain hg fun K' hK' => ?_
  obtain ⟨w', hrun, r1, r2⟩ := hown.update K ht hn hkey hval
  unfold Oper.wp
  simp [execOp, hop, hm, hx, hv, hrun, Result.andThen]
  exact hK' _ _ (hK w' r1 r2)

theorem map_block {H : Type} {w w' : World} {P : Program} {k : TypeId} {R : Value → Option (DataW H × List MemPlace)} {b n : Nat} {D : DataW H} (h : w.ownsMap P k R b n D) (hb : w'.heap[b]? = w.heap[b]?) : w'.ownsMap P k R b n D := by
  obtain ⟨es, clock, h1, rest⟩ := h
  exact ⟨es, clock, hb.trans h1, rest⟩

/-- Tokens' cells. -/
def cells3 (t : RP.Tok) : List Value := [.int .i64 t.kind, .int .i64 t.at_, .string ⟨t.text.toArray⟩]
def flat3 (ts : List RP.Tok) : List Value := ts.flatMap cells3
theorem flat3_snoc (ts : List RP.Tok) (t : RP.Tok) : flat3 (ts ++ [t]) = flat3 ts ++ cells3 t := by simp [flat3]
theorem cells3_one (t : RP.Tok) : ∀ u ∈ cells3 t, u.oneCell' = true := by
  intro u hu; simp [cells3] at hu; rcases hu with rfl | rfl | rfl <;> rfl
theorem cells3_at {w : World} {b : Nat} {t : RP.Tok} (h0 : w.cell? ⟨b, 0, none⟩ = some (.int .i64 t.kind)) (h1 : w.cell? ⟨b, 1, none⟩ = some (.int .i64 t.at_)) (h2 : w.cell? ⟨b, 2, none⟩ = some (.string ⟨t.text.toArray⟩)) :
    ∀ j u, (cells3 t)[j]? = some u → w.cell? ((⟨b, 0, none⟩ : Addr).add j) = some u := by
  intro j u hj
  match j, hj with
  | 0, hj => simp [cells3] at hj; subst hj; simpa [Addr.add] using h0
  | 1, hj => simp [cells3] at hj; subst hj; simpa [Addr.add] using h1
  | 2, hj => simp [cells3] at hj; subst hj; simpa [Addr.add] using h2
  | j + 3, hj => simp [cells3] at hj

theorem info53' : (Tryz.prog.info? 191).map (fun i => (i.zero, i.size, i.bytes)) = some (some (.agg #[.int .i64 0, .int .i64 0, .string ⟨#[]⟩]), 3, 32) := by kernel_rfl

/-- What was read, and what comes behind. -/
def join (acc : List RP.Tok) : Except RP.Bad (List RP.Tok) → Except RP.Bad (List RP.Tok)
  | .error b => .error b
  | .ok l => .ok (acc ++ l)

theorem toks_end {L n : Nat} {q : List UInt8} (h : RP.skipL q = []) : RP.toksF L (q.length + 1) n q = .ok [⟨0, L, []⟩] := by
  rw [RP.toksF, h]

theorem toks_bad {L n : Nat} {q : List UInt8} {c : UInt8} {t : List UInt8} (h : RP.skipL q = c :: t) (ht : RP.tokenL (c :: t) = none) : RP.toksF L (q.length + 1) n q = .error ⟨3, L - (c :: t).length⟩ := by
  rw [RP.toksF, h]
  simp only [ht]

theorem toks_full {L : Nat} {q : List UInt8} {c : UInt8} {t x : List UInt8} {k : Nat} (h : RP.skipL q = c :: t) (ht : RP.tokenL (c :: t) = some (k, x)) : RP.toksF L (q.length + 1) 500 q = .error ⟨4, L - (c :: t).length⟩ := by
  rw [RP.toksF, h]
  simp only [ht, if_true]

theorem toks_step {L n : Nat} {q : List UInt8} {c : UInt8} {t x : List UInt8} {k : Nat} (h : RP.skipL q = c :: t) (ht : RP.tokenL (c :: t) = some (k, x)) (hn : n ≠ 500) :
    RP.toksF L (q.length + 1) n q = join [⟨RP.kindOf k x, L - (c :: t).length, x⟩] (RP.toksF L (((c :: t).drop x.length).length + 1) (n + 1) ((c :: t).drop x.length)) := by
  have hs := RP.skipL_le q
  rw [h] at hs
  have hx := RP.tokenL_len ht
  rw [RP.toksF, h]
  simp only [ht, if_neg hn]
  rw [RP.toksF_more L q.length (((c :: t).drop x.length).length + 1) (n + 1) ((c :: t).drop x.length) (by rw [List.length_drop]; omega) (by omega)]
  cases RP.toksF L (((c :: t).drop x.length).length + 1) (n + 1) ((c :: t).drop x.length) <;> rfl

theorem join_join (a b : List RP.Tok) (e : Except RP.Bad (List RP.Tok)) : join a (join b e) = join (a ++ b) e := by
  cases e <;> simp [join]

end Go.Proofs.YtjbdlihlcoldlaaGreatDoor.Q

namespace Go.Proofs.YtjbdlihlcoldlaaGreatDoor.Q
open Go.RowKit Go.Shelf Go.Maps

theorem law9 : Keyed Tryz.prog 9 := string_keyed Tryz.underlying9
theorem zero3 (w : World) : (zeroValue 3).run Tryz.prog w = .ok (.int .i64 0) w := by kernel_rfl

/-- What rule.tokens hands back. -/
def Toks (w : World) (r : Except RP.Bad (List RP.Tok)) (e : Ending) (w' : World) : Prop :=
  match r with
  | .error b => Throws w b.err b.place e w'
  | .ok ts => ∃ v, e = .returned v ∧ w'.ownsRow w.heap.size 191 3 v ts.length (flat3 ts)

theorem Throws.later {w W w' : World} {en pl : Int} {e : Ending} (h : Throws W en pl e w') (hs : w.heap.size ≤ W.heap.size) : Throws w en pl e w' := by
  obtain ⟨b, h1, h2, h3, h4⟩ := h
  exact ⟨b, h1, h2, by omega, h4⟩

theorem app3 {w1 : World} {B : Nat} {v : Value} {ts : List RP.Tok} {t : RP.Tok} (h : w1.ownsRow B 191 3 v (ts.length + 1) (flat3 ts ++ cells3 t)) : w1.ownsRow B 191 3 v (ts ++ [t]).length (flat3 (ts ++ [t])) := by
  rw [flat3_snoc]; simpa using h

theorem own_slice {w : World} {B : Nat} {e : TypeId} {size : Nat} {v : Value} {n : Nat} {xs : List Value} (h : w.ownsRow B e size v n xs) : ∃ ao cp, v = .slice ao n cp := by
  obtain ⟨_, h2 | ⟨g, cap, cur, rfl, _⟩⟩ := h
  · obtain ⟨rfl, rfl⟩ := h2
    exact ⟨_, _, rfl⟩
  · exact ⟨_, _, rfl⟩

theorem key_string (x : List UInt8) (h : x.length ≤ maxLen) : keyOf Tryz.prog 9 (.string ⟨x.toArray⟩) = some (.string x) := Go.WideMaps.keyOf_string_mk Tryz.underlying9 (by show x.toArray.size ≤ maxLen; simpa using h)

set_option maxHeartbeats 4000000 in
set_option maxRecDepth 100000 in
theorem tokens_any (s : ByteArray) (hs : s.size ≤ 100000) (w : World) :
    Calls Tryz.prog 59 #[.string s] w fun e w' => Toks w (RP.toks s.data.toList) e w' ∧ Below w.heap.size w w' := by
  obtain ⟨i0, hi, hz0, hz1, hz2⟩ := info_parts info53'
  have hmm := @run_makeMap Tryz.prog
  have hk1 : keyOf Tryz.prog 9 (.string ⟨#[99, 108, 97, 115, 115]⟩) = some (.string RP.wClass) := by kernel_rfl
  have hk2 : keyOf Tryz.prog 9 (.string ⟨#[98, 114, 101, 97, 107]⟩) = some (.string RP.wBreak) := by kernel_rfl
  have hk3 : keyOf Tryz.prog 9 (.string ⟨#[107, 101, 101, 112]⟩) = some (.string RP.wKeep) := by kernel_rfl
  have hk4 : keyOf Tryz.prog 9 (.string ⟨#[101, 108, 115, 101]⟩) = some (.string RP.wElse) := by kernel_rfl
  have HK : Hid (keyOf Tryz.prog 9 (.string ⟨#[99, 108, 97, 115, 115]⟩) = some (.string RP.wClass) ∧ keyOf Tryz.prog 9 (.string ⟨#[98, 114, 101, 97, 107]⟩) = some (.string RP.wBreak) ∧ keyOf Tryz.prog 9 (.string ⟨#[107, 101, 101, 112]⟩) = some (.string RP.wKeep) ∧ keyOf Tryz.prog 9 (.string ⟨#[101, 108, 115, 101]⟩) = some (.string RP.wElse)) := ⟨hk1, hk2, hk3, hk4⟩
  clear hk1 hk2 hk3 hk4
  go_enter Tryz.func59, Tryz.ntmps59
  go_wp2_with (refine wpList_insert_own _ rfl _ _ _ 188 rfl 9 3 law9 Tryz.underlying188 (plainElem (H := Unit) Tryz.prog 3) w.heap.size 0 (.map []) rfl (World.ownsMap_made w _ _ _) (by decide) _ _ _ rfl rfl HK.out.1 _ [] (plainElem_int Tryz.underlying3 rfl) ?_)
  intro m1 hm1 hg1
  go_wp2_with (refine wpList_insert_own _ rfl _ _ _ 188 rfl 9 3 law9 Tryz.underlying188 (plainElem (H := Unit) Tryz.prog 3) w.heap.size 1 _ rfl hm1 (by decide) _ _ _ rfl rfl HK.out.2.1 _ [] (plainElem_int Tryz.underlying3 rfl) ?_)
  intro m2 hm2 hg2
  go_wp2_with (refine wpList_insert_own _ rfl _ _ _ 188 rfl 9 3 law9 Tryz.underlying188 (plainElem (H := Unit) Tryz.prog 3) w.heap.size 2 _ rfl hm2 (by decide) _ _ _ rfl rfl HK.out.2.2.1 _ [] (plainElem_int Tryz.underlying3 rfl) ?_)
  intro m3 hm3 hg3
  go_wp2_with (refine wpList_insert_own _ rfl _ _ _ 188 rfl 9 3 law9 Tryz.underlying188 (plainElem (H := Unit) Tryz.prog 3) w.heap.size 3 _ rfl hm3 (by decide) _ _ _ rfl rfl HK.out.2.2.2 _ [] (plainElem_int Tryz.underlying3 rfl) ?_)
  intro wM hM hg4
  rw [words_made] at hM
  have hrow : ∀ j, some w.heap.size = some j → w.heap.size ≤ j := fun j e => by cases e; exact Nat.le_refl _
  have hb1 := ((Below.refl _ w).alloc (Nat.le_refl w.heap.size) (.map #[] 0)).grown hg1 (by simp) hrow
  have hb2 := hb1.grown hg2 hb1.size hrow
  have hb3 := hb2.grown hg3 hb2.size hrow
  have hbM : Below w.heap.size w wM := hb3.grown hg4 hb3.size hrow
  have HM : Hid (wM.ownsMap Tryz.prog 9 (plainElem (H := Unit) Tryz.prog 3) w.heap.size 4 wordsD) := hM
  have hMl := hM.lt
  clear hm1 hm2 hm3 hM hg1 hg2 hg3 hg4 hb1 hb2 hb3 hrow HK hmm
  have hSk := fun (n : Nat) (hn : n ≤ s.size) (W : World) => skip_any s n (by omega) hn W
  go_wp2_with fail
  refine (hSk 0 (Nat.zero_le _) wM).mono ?_
  rintro e w' ⟨⟨k0, rfl, -, hk02, hd0⟩, hw'⟩
  obtain rfl := hw'.symm
  have HD0 : Hid (s.data.toList.drop k0 = RP.skipL (s.data.toList.drop 0)) := hd0
  clear hd0
  go_wp2_with fail
  go_loopw [4, 5] (fun v i wr => ∃ (k : Nat) (acc : List RP.Tok) (q : List UInt8), k ≤ s.size ∧ i = .int .i64 k ∧ acc.length ≤ 500 ∧ s.data.toList.drop k = RP.skipL q ∧ RP.toks s.data.toList = join acc (RP.toksF s.data.toList.length (q.length + 1) acc.length q) ∧ wr.ownsRow wM.heap.size 191 3 v acc.length (flat3 acc) ∧ Below wM.heap.size wM wr) (fun _ i _ => s.size - (intOf i).toNat)
  case atStart => exact ⟨k0, [], s.data.toList, hk02, rfl, by simp, by rw [HD0.out]; rfl, by unfold RP.toks; cases RP.toksF s.data.toList.length (s.data.toList.length + 1) 0 s.data.toList <;> rfl, World.ownsRow_nil _ _ _ _, Below.refl _ _⟩
  case round =>
    obtain ⟨k, acc, q, hk, rfl, hal, hdk, htk, hown, hnx⟩ := hrel
    have HDK : Hid (s.data.toList.drop k = RP.skipL q) := hdk
    have HTK : Hid (RP.toks s.data.toList = join acc (RP.toksF s.data.toList.length (q.length + 1) acc.length q)) := htk
    clear hdk htk
    have hsz := hnx.size
    by_cases hlt : k < s.size
    · have hdb := drop_byte s k hlt
      have hlen : s.data.toList.length - (s.data.toList.drop k).length = k := by rw [List.length_drop]; have : s.data.toList.length = s.size := rfl; omega
      cases htl : RP.tokenL (s.data.toList.drop k) with
      | none =>
        have HF : Hid (RP.toks s.data.toList = .error ⟨3, k⟩) := by
          show _ = _
          rw [HTK.out]
          have e1 := HDK.out.symm.trans hdb
          rw [toks_bad e1 (by rw [← hdb]; exact htl), ← hdb, hlen]
          rfl
        have hT := tokenAt_bad s k (by omega) hlt htl wr
        clear htl hdb hlen
        go_wp2_with fail
        refine hT.mono ?_
        rintro e w1 ⟨⟨b, rfl, hbh, hbl, hbs⟩, hb1⟩
        go_wp2_with fail
        refine ⟨rfl, ?_, hbM.trans ((hnx.trans (hb1.mono hsz)).mono hbM.size)⟩
        rw [HF.out]
        exact ⟨b, rfl, hbh, by have := hbM.size; omega, hbs⟩
      | some kx =>
        obtain ⟨kk, x⟩ := kx
        have hxl := RP.tokenL_len htl
        have hT := tokenAt_ok s k (by omega) hlt kk x htl wr
        have hx1 : 1 ≤ x.length := hxl.1
        have hxs : x.length ≤ s.size - k := by have := hxl.2.1; rw [List.length_drop] at this; exact this
        by_cases h500 : acc.length = 500
        · have HF : Hid (RP.toks s.data.toList = .error ⟨4, k⟩) := by
            show _ = _
            rw [HTK.out, h500]
            have e1 := HDK.out.symm.trans hdb
            rw [toks_full e1 (by rw [← hdb]; exact htl), ← hdb, hlen]
            rfl
          clear htl hdb hlen hxl
          rw [h500] at hown hal
          obtain ⟨ao, cp, hve⟩ := own_slice hown
          subst hve
          clear h500
          go_wp2_with fail
          refine hT.mono ?_
          rintro e w1 ⟨rfl, hb1⟩
          have hB1 : Below wM.heap.size wM w1 := hnx.trans (hb1.mono hsz)
          unfold tokV
          go_wp2_with fail
          refine (wrong_any 4 k _).mono ?_
          rintro e w2 ⟨rfl, rfl⟩
          go_wp2_with fail
          have hs1 := hB1.size
          refine ⟨rfl, ?_, hbM.trans (((hB1.alloc hs1 _).alloc (by simp; omega) _).mono hbM.size)⟩
          rw [HF.out]
          refine ⟨w1.heap.size + 1, rfl, ?_, by have := hbM.size; omega, by simp⟩
          have := heap_alloc_new (w1.alloc (.cells #[.int .i64 kk, .int .i64 k, .string ⟨x.toArray⟩] 191)) (.cells #[.int .i64 4, .int .i64 k] 98)
          simpa using this
        · have HSTEP : Hid (RP.toks s.data.toList = join (acc ++ [(⟨RP.kindOf kk x, k, x⟩ : RP.Tok)]) (RP.toksF s.data.toList.length ((s.data.toList.drop (k + x.length)).length + 1) (acc ++ [(⟨RP.kindOf kk x, k, x⟩ : RP.Tok)]).length (s.data.toList.drop (k + x.length)))) := by
            show _ = _
            have e1 := HDK.out.symm.trans hdb
            rw [HTK.out, toks_step e1 (by rw [← hdb]; exact htl) h500, ← hdb, hlen, List.drop_drop, join_join, List.length_append]
            rfl
          have hkey := key_string x (by unfold maxLen; omega)
          have hw := words_look kk x
          obtain ⟨ao, cp, hve⟩ := own_slice hown
          subst hve
          have hal' : acc.length < 500 := by omega
          have hne : ((acc.length : Int) == 500) = false := by simp; omega
          clear htl hdb hlen hxl h500
          go_wp2_with fail
          refine hT.mono ?_
          rintro e w1 ⟨rfl, hb1⟩
          have hB1 : Below wM.heap.size wM w1 := hnx.trans (hb1.mono hsz)
          have hs1 := hB1.size
          have hown1 := owns_later hown hb1
          have HMA : Hid ((w1.alloc (.cells #[.int .i64 kk, .int .i64 k, .string ⟨x.toArray⟩] 191)).ownsMap Tryz.prog 9 (plainElem (H := Unit) Tryz.prog 3) w.heap.size 4 wordsD) := map_block HM.out ((heap_alloc_old w1 _ (by omega)).trans (hB1.block _ hMl))
          unfold tokV
          clear hb1 hT hown hnx
          rcases hw with hw | hw
          · obtain ⟨hh, hkk⟩ := hw
            go_wp2_with (at_lookup; refine wpList_lookup_own_ok_int _ rfl _ _ 188 rfl 9 3 .i64 law9 Tryz.underlying188 Tryz.underlying3 (zero3 _) w.heap.size 4 wordsD rfl HMA.out _ _ rfl hkey ?_)
            intro c hat hwc
            clear hat hwc
            have HKK : Hid (RP.kindOf kk x = kk) := hkk
            clear hkk
            go_wp2_with (at_builtin; refine wpList_append_own _ rfl _ _ 129 rfl wM.heap.size 191 i0 (.agg #[.int .i64 0, .int .i64 0, .string ⟨#[]⟩]) 3 32 Tryz.underlying129 hi hz0 hz1 hz2 rfl (by decide) _ _ _ rfl ((hown1.alloc _).alloc _) ⟨w1.heap.size + 1, 0, none⟩ 1 1 (cells3 ⟨kk, k, x⟩) rfl rfl (cells3_at ?_ ?_ ?_) (cells3_one _) ?_ ?_ ?_ ?_)
            rotate_right
            · intro v' w2 hown' hgrow _
              have hb2 : Below wM.heap.size wM w2 := ((hB1.alloc hs1 _).alloc (by simp; omega) _).grown hgrow (by simp; omega) (fun j hj => (hown1.lt j hj).1)
              have ctx : w2.cell? ⟨w1.heap.size, 2, none⟩ = some (.string ⟨x.toArray⟩) := by
                have hbk := hgrow.block w1.heap.size (by simp; omega) (fun e => by have := (hown1.lt _ e.symm).2; omega)
                rw [World.cell?_of_block (a := ⟨w1.heap.size, 2, none⟩) hbk, World.cell?_of_block (a := ⟨w1.heap.size, 2, none⟩) (heap_alloc_old _ _ (by simp))]
                simp
              have R : Hid (w2.ownsRow wM.heap.size 191 3 v' (acc ++ [(⟨kk, k, x⟩ : RP.Tok)]).length (flat3 (acc ++ [(⟨kk, k, x⟩ : RP.Tok)]))) := app3 hown'
              have hsk := hSk (k + x.length) (by omega) w2
              push_cast at hsk
              clear hown' hgrow hown1
              go_wp2_with fail
              refine hsk.mono ?_
              rintro e w3 ⟨⟨k3, rfl, hk31, hk32, hd3⟩, hw3⟩
              obtain rfl := hw3.symm
              have HD3 : Hid (s.data.toList.drop k3 = RP.skipL (s.data.toList.drop (k + x.length))) := hd3
              clear hd3 hsk
              go_wp2_with fail
              refine ⟨⟨k3, acc ++ [(⟨kk, k, x⟩ : RP.Tok)], s.data.toList.drop (k + x.length), hk32, rfl, by simp; omega, HD3.out, ?_, R.out, hb2⟩, by simp [intOf]; omega⟩
              rw [HSTEP.out, HKK.out]
            all_goals first | (simp; done) | (unfold maxLen; omega) | omega | (simp; omega)
          · obtain ⟨hh, hat0⟩ := hw
            have HAT : Hid (wordsD.atKey (.string x) (.lit (.int .i64 0)) = .lit (.int .i64 (RP.kindOf kk x : Nat))) := hat0
            clear hat0
            go_wp2_with (at_lookup; refine wpList_lookup_own_ok_int _ rfl _ _ 188 rfl 9 3 .i64 law9 Tryz.underlying188 Tryz.underlying3 (zero3 _) w.heap.size 4 wordsD rfl HMA.out _ _ rfl hkey ?_)
            intro c hat hwc
            obtain rfl : c = (RP.kindOf kk x : Nat) := by
              have := hat.symm.trans HAT.out
              simpa using this
            clear hat hwc
            go_wp2_with (at_builtin; refine wpList_append_own _ rfl _ _ 129 rfl wM.heap.size 191 i0 (.agg #[.int .i64 0, .int .i64 0, .string ⟨#[]⟩]) 3 32 Tryz.underlying129 hi hz0 hz1 hz2 rfl (by decide) _ _ _ rfl ((hown1.alloc _).alloc _) ⟨w1.heap.size + 1, 0, none⟩ 1 1 (cells3 ⟨RP.kindOf kk x, k, x⟩) rfl rfl (cells3_at ?_ ?_ ?_) (cells3_one _) ?_ ?_ ?_ ?_)
            rotate_right
            · intro v' w2 hown' hgrow _
              have hb2 : Below wM.heap.size wM w2 := ((hB1.alloc hs1 _).alloc (by simp; omega) _).grown hgrow (by simp; omega) (fun j hj => (hown1.lt j hj).1)
              have ctx : w2.cell? ⟨w1.heap.size, 2, none⟩ = some (.string ⟨x.toArray⟩) := by
                have hbk := hgrow.block w1.heap.size (by simp; omega) (fun e => by have := (hown1.lt _ e.symm).2; omega)
                rw [World.cell?_of_block (a := ⟨w1.heap.size, 2, none⟩) hbk, World.cell?_of_block (a := ⟨w1.heap.size, 2, none⟩) (heap_alloc_old _ _ (by simp))]
                simp
              have R : Hid (w2.ownsRow wM.heap.size 191 3 v' (acc ++ [(⟨RP.kindOf kk x, k, x⟩ : RP.Tok)]).length (flat3 (acc ++ [(⟨RP.kindOf kk x, k, x⟩ : RP.Tok)]))) := app3 hown'
              have hsk := hSk (k + x.length) (by omega) w2
              push_cast at hsk
              clear hown' hgrow hown1
              go_wp2_with fail
              refine hsk.mono ?_
              rintro e w3 ⟨⟨k3, rfl, hk31, hk32, hd3⟩, hw3⟩
              obtain rfl := hw3.symm
              have HD3 : Hid (s.data.toList.drop k3 = RP.skipL (s.data.toList.drop (k + x.length))) := hd3
              clear hd3 hsk
              go_wp2_with fail
              refine ⟨⟨k3, acc ++ [(⟨RP.kindOf kk x, k, x⟩ : RP.Tok)], s.data.toList.drop (k + x.length), hk32, rfl, by simp; omega, HD3.out, ?_, R.out, hb2⟩, by simp [intOf]; omega⟩
              rw [HSTEP.out]
            all_goals first | (simp; done) | (unfold maxLen; omega) | omega | (simp; omega)
    · have hdn := head_none s k hlt
      have HF : Hid (RP.toks s.data.toList = .ok (acc ++ [(⟨0, s.size, []⟩ : RP.Tok)])) := by
        show _ = _
        rw [HTK.out, toks_end (HDK.out.symm.trans hdn)]
        rfl
      clear hdn
      obtain ⟨ao, cp, hve⟩ := own_slice hown
      subst hve
      go_wp2_with (at_builtin; refine wpList_append_own _ rfl _ _ 129 rfl wM.heap.size 191 i0 (.agg #[.int .i64 0, .int .i64 0, .string ⟨#[]⟩]) 3 32 Tryz.underlying129 hi hz0 hz1 hz2 rfl (by decide) _ _ _ rfl (hown.alloc _) ⟨wr.heap.size, 0, none⟩ 1 1 (cells3 ⟨0, s.size, []⟩) rfl rfl (cells3_at ?_ ?_ ?_) (cells3_one _) ?_ ?_ ?_ ?_)
      rotate_right
      · intro v' w2 hown' hgrow _
        have hb2 : Below wM.heap.size wM w2 := (hnx.alloc hsz _).grown hgrow (by simp; omega) (fun j hj => (hown.lt j hj).1)
        have R : Hid (w2.ownsRow wM.heap.size 191 3 v' (acc ++ [(⟨0, s.size, []⟩ : RP.Tok)]).length (flat3 (acc ++ [(⟨0, s.size, []⟩ : RP.Tok)]))) := app3 hown'
        clear hown' hgrow hown
        go_wp2_with fail
        go_ret
        refine ⟨?_, hbM.trans (hb2.mono hbM.size)⟩
        rw [HF.out]
        exact ⟨_, rfl, owns_mono R.out hbM.size⟩
      all_goals first | (simp; done) | (unfold maxLen; omega) | omega | (simp; omega)

end Go.Proofs.YtjbdlihlcoldlaaGreatDoor.Q

namespace Go.Proofs.YtjbdlihlcoldlaaGreatDoor.Q
open Go.RowKit Go.Shelf

/-- The parser at block pb has these tokens left, and has read so many classes. -/
def PS (pb : Nat) (ts : List RP.Tok) (c : Nat) (w : World) : Prop :=
  ∃ tb off cap : Nat, w.heap[pb]? = some (.cells #[.slice (some ⟨tb, off, none⟩) ts.length cap, .int .i64 c] 132) ∧ tb < pb ∧ ts.length ≤ cap ∧ (ts.length ≤ 1000000 ∧ cap ≤ 9223372036854775807) ∧
    ∀ k (h : k < ts.length), w.cell? ⟨tb, off + k * 3, none⟩ = some (.int .i64 ts[k].kind) ∧ w.cell? ⟨tb, off + k * 3 + 1, none⟩ = some (.int .i64 ts[k].at_) ∧ w.cell? ⟨tb, off + k * 3 + 2, none⟩ = some (.string ⟨ts[k].text.toArray⟩)

theorem PS.lt {pb : Nat} {ts : List RP.Tok} {c : Nat} {w : World} (h : PS pb ts c w) : pb < w.heap.size := by
  obtain ⟨tb, off, cap, h1, _⟩ := h
  exact lt_of_block h1

/-- It stays so while other blocks are made. -/
theorem PS.below {pb : Nat} {ts : List RP.Tok} {c : Nat} {w w' : World} (h : PS pb ts c w) (hb : Below w.heap.size w w') : PS pb ts c w' := by
  have hl := h.lt
  obtain ⟨tb, off, cap, h1, h2, h3, h4, h5⟩ := h
  refine ⟨tb, off, cap, (hb.block pb hl).trans h1, h2, h3, h4, fun k hk => ?_⟩
  obtain ⟨a, b, d⟩ := h5 k hk
  have hbl := hb.block tb (by omega)
  exact ⟨(World.cell?_of_block (a := ⟨tb, _, none⟩) hbl).trans a, (World.cell?_of_block (a := ⟨tb, _, none⟩) hbl).trans b, (World.cell?_of_block (a := ⟨tb, _, none⟩) hbl).trans d⟩

/-- What lies at hand where a token is left. -/
theorem PS.open {pb : Nat} {t : RP.Tok} {r : List RP.Tok} {c : Nat} {w : World} (h : PS pb (t :: r) c w) : ∃ tb off cap : Nat, w.cell? ⟨pb, 0, none⟩ = some (.slice (some ⟨tb, off, none⟩) (r.length + 1) cap) ∧ w.cell? ⟨pb, 1, none⟩ = some (.int .i64 c) ∧
    w.frozen? ⟨pb, 0, none⟩ = false ∧ w.frozen? ⟨pb, 1, none⟩ = false ∧ r.length + 1 ≤ cap ∧ r.length + 1 ≤ 1000000 ∧
    w.cell? ⟨tb, off, none⟩ = some (.int .i64 t.kind) ∧ w.cell? ⟨tb, off + 1, none⟩ = some (.int .i64 t.at_) ∧ w.cell? ⟨tb, off + 2, none⟩ = some (.string ⟨t.text.toArray⟩) ∧ tb < w.heap.size ∧ tb < pb ∧
    ∀ W v, (∀ j, j ≠ pb → j < w.heap.size → W.heap[j]? = w.heap[j]?) → W.heap[pb]? = some (.cells #[v, .int .i64 c] 132) → (∃ o' cap', v = .slice (some ⟨tb, o', none⟩) r.length cap' ∧ cap' = cap - 1 ∧ (o' = off + 3 ∨ cap = 1)) → PS pb r c W := by
  have hl := h.lt
  obtain ⟨tb, off, cap, h1, h2, h3, h4, h5⟩ := h
  obtain ⟨a, b, d⟩ := h5 0 (by simp)
  refine ⟨tb, off, cap, cell_of_row w pb 0 _ _ _ h1, cell_of_row w pb 1 _ _ _ h1, frozen_of_row w pb 0 _ _ h1, frozen_of_row w pb 1 _ _ h1, h3, h4.1, by simpa using a, by simpa using b, by simpa using d, by omega, h2, ?_⟩
  rintro W v hW hpb ⟨o', cap', rfl, rfl, ho⟩
  refine ⟨tb, o', cap - 1, hpb, h2, by simp at h3; omega, by simp only [List.length_cons] at h4; omega, fun k hk => ?_⟩
  obtain rfl : o' = off + 3 := by rcases ho with h | h; exact h; simp at h3; omega
  obtain ⟨a, b, d⟩ := h5 (k + 1) (by simpa using hk)
  have hbl := hW tb (by omega) (by omega)
  have e : off + 3 + k * 3 = off + (k + 1) * 3 := by omega
  rw [e]
  exact ⟨(World.cell?_of_block (a := ⟨tb, _, none⟩) hbl).trans a, (World.cell?_of_block (a := ⟨tb, _, none⟩) hbl).trans b, (World.cell?_of_block (a := ⟨tb, _, none⟩) hbl).trans d⟩

theorem toList_ne {a b : ByteArray} (h : a ≠ b) : (a.toList == b.toList) = false := by
  rw [beq_eq_false_iff_ne]
  intro e
  apply h
  rw [Lib.toList_data, Lib.toList_data] at e
  apply ByteArray.ext
  exact Array.ext' e

set_option maxHeartbeats 1000000 in
set_option maxRecDepth 100000 in
theorem is_any (k pb : Nat) (t : RP.Tok) (r : List RP.Tok) (c : Nat) (w : World) (h : PS pb (t :: r) c w) :
    Calls Tryz.prog 109 #[.pointer (some ⟨pb, 0, none⟩), .int .i64 k] w fun e w' => e = .returned (.bool (decide (t.kind = k))) ∧ w' = w := by
  obtain ⟨tb, off, cap, c0, c1, f0, f1, hc, hcm, t0, t1, t2, -, -, -⟩ := h.open
  clear h
  go_enter Tryz.func109, Tryz.ntmps109
  go_wp2_with fail
  go_ret
  exact ⟨ret_bool (by rw [Bool.eq_iff_iff]; simp; omega), rfl⟩

/-- What refuse throws. -/
def refuseE (en : Nat) (t : RP.Tok) (c : Nat) : Nat := if t.kind = 5 ∧ c = 20 then 4 else en

set_option maxHeartbeats 1000000 in
set_option maxRecDepth 100000 in
theorem refuse_any (en pb : Nat) (t : RP.Tok) (r : List RP.Tok) (c : Nat) (w : World) (h : PS pb (t :: r) c w) :
    Calls Tryz.prog 111 #[.pointer (some ⟨pb, 0, none⟩), .int .i64 en] w fun e w' => Throws w (refuseE en t c : Nat) t.at_ e w' ∧ Below w.heap.size w w' := by
  have hI := is_any 5 pb t r c w h
  obtain ⟨tb, off, cap, c0, c1, f0, f1, hc, hcm, t0, t1, t2, -, -, -⟩ := h.open
  clear h
  have hB := fun o => (Below.refl w.heap.size w).alloc (Nat.le_refl w.heap.size) o
  by_cases h5 : t.kind = 5
  · have e5 : decide (t.kind = 5) = true := by simpa using h5
    rw [e5] at hI
    by_cases h20 : c = 20
    · have HR : Hid (refuseE en t c = 4) := by show _ = _; unfold refuseE; rw [if_pos ⟨h5, h20⟩]
      subst h20
      clear h5 e5
      go_enter Tryz.func111, Tryz.ntmps111
      go_wp2_with fail
      refine hI.mono ?_
      rintro e w' ⟨rfl, rfl⟩
      go_wp2_with fail
      refine (wrong_any 4 t.at_ _).mono ?_
      rintro e w' ⟨rfl, rfl⟩
      go_wp2_with fail
      refine ⟨rfl, ?_, hB _⟩
      rw [HR.out]
      exact ⟨_, rfl, heap_alloc_new _ _, Nat.le_refl _, by simp⟩
    · have HR : Hid (refuseE en t c = en) := by show _ = _; unfold refuseE; rw [if_neg (fun h => h20 h.2)]
      have e20 : ((c : Int) == 20) = false := by simp; omega
      clear h5 e5 h20
      go_enter Tryz.func111, Tryz.ntmps111
      go_wp2_with fail
      refine hI.mono ?_
      rintro e w' ⟨rfl, rfl⟩
      go_wp2_with fail
      refine (wrong_any en t.at_ _).mono ?_
      rintro e w' ⟨rfl, rfl⟩
      go_wp2_with fail
      refine ⟨rfl, ?_, hB _⟩
      rw [HR.out]
      exact ⟨_, rfl, heap_alloc_new _ _, Nat.le_refl _, by simp⟩
  · have e5 : decide (t.kind = 5) = false := by simpa using h5
    rw [e5] at hI
    have HR : Hid (refuseE en t c = en) := by show _ = _; unfold refuseE; rw [if_neg (fun h => h5 h.1)]
    clear h5 e5
    go_enter Tryz.func111, Tryz.ntmps111
    go_wp2_with fail
    refine hI.mono ?_
    rintro e w' ⟨rfl, rfl⟩
    go_wp2_with fail
    refine (wrong_any en t.at_ _).mono ?_
    rintro e w' ⟨rfl, rfl⟩
    go_wp2_with fail
    refine ⟨rfl, ?_, hB _⟩
    rw [HR.out]
    exact ⟨_, rfl, heap_alloc_new _ _, Nat.le_refl _, by simp⟩

theorem grown_set {w : World} {b i : Nat} (v : Value) : w.grownBy (w.setCell ⟨b, i, none⟩ v) (some b) :=
  ⟨rfl, rfl, rfl, by simp, fun k _ hk => heap_setCell_other w ⟨b, i, none⟩ k v (fun e => hk (by rw [e]))⟩

set_option maxHeartbeats 1000000 in
set_option maxRecDepth 100000 in
theorem accept_yes (pb : Nat) (t : RP.Tok) (r : List RP.Tok) (c : Nat) (x : ByteArray) (hx : (⟨t.text.toArray⟩ : ByteArray) = x) (w : World) (h : PS pb (t :: r) c w) :
    Calls Tryz.prog 170 #[.pointer (some ⟨pb, 0, none⟩), .string x] w fun e w' => e = .returned (.bool true) ∧ PS pb r c w' ∧ w.grownBy w' (some pb) := by
  have hh := h
  obtain ⟨_, _, _, hpb, _⟩ := hh
  obtain ⟨tb, off, cap, c0, c1, f0, f1, hc, hcm, t0, t1, t2, -, -, hnext⟩ := h.open
  have HN : Hid _ := hnext
  have HPB : Hid _ := hpb
  clear h hnext hpb
  rw [hx] at t2
  have hs := (show (x.toList == x.toList) = true by simp)
  clear hx
  have h1c : (1 : Int) ≤ (cap : Int) := by omega
  have h1r : (1 : Int) ≤ (r.length : Int) + 1 := by omega
  go_enter Tryz.func170, Tryz.ntmps170
  go_wp2_with fail
  all_goals go_ret
  · refine ⟨rfl, HN.out _ _ (fun j hj _ => heap_setCell_other w ⟨pb, 0, none⟩ j _ hj) (heap_setCell_same w pb 0 _ 132 _ HPB.out) ⟨off, 0, ?_, by omega, by omega⟩, grown_set _⟩
    first | rfl | (congr 1 <;> omega)
  · exact ⟨rfl, HN.out _ _ (fun j hj _ => heap_setCell_other w ⟨pb, 0, none⟩ j _ hj) (heap_setCell_same w pb 0 _ 132 _ HPB.out) ⟨off + 3, cap - 1, rfl, rfl, .inl rfl⟩, grown_set _⟩

end Go.Proofs.YtjbdlihlcoldlaaGreatDoor.Q

namespace Go.Proofs.YtjbdlihlcoldlaaGreatDoor.Q
open Go.RowKit Go.Shelf

set_option maxHeartbeats 1000000 in
set_option maxRecDepth 100000 in
theorem accept_no (pb : Nat) (t : RP.Tok) (r : List RP.Tok) (c : Nat) (x : ByteArray) (hx : (⟨t.text.toArray⟩ : ByteArray) ≠ x) (w : World) (h : PS pb (t :: r) c w) :
    Calls Tryz.prog 170 #[.pointer (some ⟨pb, 0, none⟩), .string x] w fun e w' => e = .returned (.bool false) ∧ w' = w := by
  obtain ⟨tb, off, cap, c0, c1, f0, f1, hc, hcm, t0, t1, t2, -, -, -⟩ := h.open
  clear h
  have hs := toList_ne hx
  generalize (⟨t.text.toArray⟩ : ByteArray) = y at t2 hs
  clear hx
  go_enter Tryz.func170, Tryz.ntmps170
  go_wp2_with fail
  go_ret
  exact ⟨rfl, rfl⟩

set_option maxHeartbeats 1000000 in
set_option maxRecDepth 100000 in
theorem mark_yes (pb : Nat) (t : RP.Tok) (r : List RP.Tok) (c : Nat) (x : ByteArray) (hx : (⟨t.text.toArray⟩ : ByteArray) = x) (w : World) (h : PS pb (t :: r) c w) :
    Calls Tryz.prog 115 #[.pointer (some ⟨pb, 0, none⟩), .string x] w fun e w' => e = .returned (.tuple #[]) ∧ PS pb r c w' ∧ w.grownBy w' (some pb) := by
  have hA := accept_yes pb t r c x hx w h
  clear h hx
  go_enter Tryz.func115, Tryz.ntmps115
  go_wp2_with fail
  refine hA.mono ?_
  rintro e w1 ⟨rfl, h1, h2⟩
  have HP : Hid (PS pb r c w1) := h1
  clear h1 hA
  go_wp2_with fail
  first | go_end0 | refine bodyPost_ret (results_none rfl _ _ _) rfl ?_
  exact ⟨rfl, HP.out, h2⟩

set_option maxHeartbeats 1000000 in
set_option maxRecDepth 100000 in
theorem mark_no (pb : Nat) (t : RP.Tok) (r : List RP.Tok) (c : Nat) (x : ByteArray) (hx : (⟨t.text.toArray⟩ : ByteArray) ≠ x) (w : World) (h : PS pb (t :: r) c w) :
    Calls Tryz.prog 115 #[.pointer (some ⟨pb, 0, none⟩), .string x] w fun e w' => Throws w (refuseE 3 t c : Nat) t.at_ e w' ∧ Below w.heap.size w w' := by
  have hA := accept_no pb t r c x hx w h
  have hR := refuse_any 3 pb t r c w h
  clear h hx
  go_enter Tryz.func115, Tryz.ntmps115
  go_wp2_with fail
  refine hA.mono ?_
  rintro e w1 ⟨rfl, hw⟩
  obtain rfl := hw.symm
  clear hA
  go_wp2_with fail
  refine hR.mono ?_
  rintro e w2 ⟨⟨b, rfl, h1, h2, h3⟩, hb⟩
  go_wp2_with fail
  exact ⟨rfl, ⟨b, rfl, h1, h2, h3⟩, hb⟩

theorem cell_alloc_old (w : World) (o : Obj) (b k : Nat) (h : b < w.heap.size) : (w.alloc o).cell? ⟨b, k, none⟩ = w.cell? ⟨b, k, none⟩ :=
  World.cell?_of_block (w := w) (w' := w.alloc o) (a := ⟨b, k, none⟩) (heap_alloc_old w o h)
theorem frozen_alloc_old (w : World) (o : Obj) (b k : Nat) (h : b < w.heap.size) : (w.alloc o).frozen? ⟨b, k, none⟩ = w.frozen? ⟨b, k, none⟩ :=
  World.frozen?_of_block (w := w) (w' := w.alloc o) (a := ⟨b, k, none⟩) (heap_alloc_old w o h)

theorem grown_alloc {w W : World} {row : Option Nat} (h : w.grownBy W row) (o : Obj) : w.grownBy (W.alloc o) row :=
  h.trans (World.grownBy_alloc W o row)

theorem heap2_new (w : World) (pb : Nat) (v : Value) (A B : Obj) : (((w.setCell ⟨pb, 0, none⟩ v).alloc A).alloc B).heap[w.heap.size]? = some A := by
  rw [heap_alloc_old _ _ (by simp)]
  have := heap_alloc_new (w.setCell ⟨pb, 0, none⟩ v) A
  simpa using this
theorem heap2_other (w : World) (pb : Nat) (v : Value) (A B : Obj) (j : Nat) (hj : j ≠ pb) (hl : j < w.heap.size) : (((w.setCell ⟨pb, 0, none⟩ v).alloc A).alloc B).heap[j]? = w.heap[j]? := by
  rw [heap_alloc_old _ _ (by simp; omega), heap_alloc_old _ _ (by simp; omega)]
  exact heap_setCell_other w ⟨pb, 0, none⟩ j v hj
theorem heap2_same (w : World) (pb : Nat) (v : Value) (A B : Obj) (hl : pb < w.heap.size) {x y : Value} (h : w.heap[pb]? = some (.cells #[x, y] 132)) : (((w.setCell ⟨pb, 0, none⟩ v).alloc A).alloc B).heap[pb]? = some (.cells #[v, y] 132) := by
  rw [heap_alloc_old _ _ (by simp; omega), heap_alloc_old _ _ (by simp; omega)]
  exact heap_setCell_same w pb 0 _ 132 v h

set_option maxHeartbeats 1000000 in
set_option maxRecDepth 100000 in
theorem take_yes (pb : Nat) (t : RP.Tok) (r : List RP.Tok) (c k : Nat) (hk : t.kind = k) (w : World) (h : PS pb (t :: r) c w) :
    Calls Tryz.prog 113 #[.pointer (some ⟨pb, 0, none⟩), .int .i64 k] w fun e w' => e = .returned (tokV t.kind t.at_ ⟨t.text.toArray⟩) ∧ PS pb r c w' ∧ w.grownBy w' (some pb) := by
  have hl := h.lt
  have hh := h
  obtain ⟨_, _, _, hpb, _⟩ := hh
  obtain ⟨tb, off, cap, c0, c1, f0, f1, hc, hcm, t0, t1, t2, htl, htp, hnext⟩ := h.open
  have HN : Hid _ := hnext
  have HPB : Hid _ := hpb
  clear h hnext hpb
  have a0 := fun o => (cell_alloc_old w o pb 0 hl).trans c0
  have b0 := fun o o' => (cell_alloc_old (w.alloc o) o' pb 0 (by simp; omega)).trans (a0 o)
  have s0 := fun o o' => (frozen_alloc_old (w.alloc o) o' pb 0 (by simp; omega)).trans ((frozen_alloc_old w o pb 0 hl).trans f0)
  have u0 := fun o => (cell_alloc_old w o tb off htl).trans t0
  have u1 := fun o => (cell_alloc_old w o tb (off + 1) htl).trans t1
  have u2 := fun o => (cell_alloc_old w o tb (off + 2) htl).trans t2
  have h1c : (1 : Int) ≤ (cap : Int) := by omega
  have h1r : (1 : Int) ≤ (r.length : Int) + 1 := by omega
  obtain ⟨kk, hkk⟩ : ∃ kk, kk = t.kind := ⟨_, rfl⟩
  rw [← hkk] at u0 hk ⊢
  subst hk
  clear hkk c0 c1 t0 t1 t2 f0 f1
  go_enter Tryz.func113, Tryz.ntmps113
  go_wp2_with fail
  · refine bodyPost_ret (results_cell_row rfl _ _ w.heap.size 191 #[_, _, _] _ _ rfl (heap2_new w pb _ _ _) Tryz.underlying191 rfl size53) rfl ?_
    exact ⟨rfl, HN.out _ _ (fun j hj hjl => heap2_other w pb _ _ _ j hj hjl) (heap2_same w pb _ _ _ hl HPB.out) ⟨off, 0, rfl, by omega, by omega⟩, grown_alloc (grown_alloc (grown_set _) _) _⟩
  · refine bodyPost_ret (results_cell_row rfl _ _ w.heap.size 191 #[_, _, _] _ _ rfl (heap2_new w pb _ _ _) Tryz.underlying191 rfl size53) rfl ?_
    exact ⟨rfl, HN.out _ _ (fun j hj hjl => heap2_other w pb _ _ _ j hj hjl) (heap2_same w pb _ _ _ hl HPB.out) ⟨off + 3, cap - 1, rfl, rfl, .inl rfl⟩, grown_alloc (grown_alloc (grown_set _) _) _⟩

set_option maxHeartbeats 1000000 in
set_option maxRecDepth 100000 in
theorem take_no (pb : Nat) (t : RP.Tok) (r : List RP.Tok) (c k : Nat) (hk : t.kind ≠ k) (w : World) (h : PS pb (t :: r) c w) :
    Calls Tryz.prog 113 #[.pointer (some ⟨pb, 0, none⟩), .int .i64 k] w fun e w' => Throws w (refuseE 3 t c : Nat) t.at_ e w' ∧ Below w.heap.size w w' := by
  have hl := h.lt
  have hB := fun o o' => ((Below.refl w.heap.size w).alloc (Nat.le_refl w.heap.size) o).alloc (by simp) o'
  have hR := fun o o' => refuse_any 3 pb t r c ((w.alloc o).alloc o') (h.below (hB o o'))
  obtain ⟨tb, off, cap, c0, c1, f0, f1, hc, hcm, t0, t1, t2, htl, htp, -⟩ := h.open
  have HB : Hid _ := hB
  have HR : Hid (∀ o o', Calls Tryz.prog 111 #[.pointer (some ⟨pb, 0, none⟩), .int .i64 (3 : Nat)] ((w.alloc o).alloc o') fun e w' => Throws ((w.alloc o).alloc o') (refuseE 3 t c : Nat) t.at_ e w' ∧ Below ((w.alloc o).alloc o').heap.size ((w.alloc o).alloc o') w') := hR
  clear h hB hR
  have a0 := fun o => (cell_alloc_old w o pb 0 hl).trans c0
  have u0 := fun o => (cell_alloc_old w o tb off htl).trans t0
  have u1 := fun o => (cell_alloc_old w o tb (off + 1) htl).trans t1
  have u2 := fun o => (cell_alloc_old w o tb (off + 2) htl).trans t2
  have hne : ((t.kind : Int) == (k : Int)) = false := by simp; omega
  obtain ⟨kk, hkk⟩ : ∃ kk, kk = t.kind := ⟨_, rfl⟩
  rw [← hkk] at u0 hne
  clear hkk c0 c1 t0 t1 t2 f0 f1 hk
  go_enter Tryz.func113, Tryz.ntmps113
  go_wp2_with fail
  refine (HR.out _ _).mono ?_
  rintro e w2 ⟨⟨b, rfl, h1, h2, h3⟩, hb⟩
  go_wp2_with fail
  exact ⟨rfl, ⟨b, rfl, h1, by simp at h2; omega, h3⟩, (HB.out _ _).trans (hb.mono (by simp; omega))⟩

end Go.Proofs.YtjbdlihlcoldlaaGreatDoor.Q

namespace Go.Proofs.YtjbdlihlcoldlaaGreatDoor.Q
open Go.RowKit Go.Shelf

/-- What a method of the parser leaves: its answer and the tokens behind; or what it throws. -/
def Step (pb c : Nat) (w : World) {α : Type} (res : RP.Res α) (V : α → Value → World → Prop) (e : Ending) (w' : World) : Prop :=
  w.grownBy w' (some pb) ∧ match res with
    | .error b => Throws w b.err b.place e w'
    | .ok (a, r) => PS pb r c w' ∧ ∃ v, e = .returned v ∧ V a v w'

theorem grown_below {w w' : World} (hb : Below w.heap.size w w') (row : Option Nat) : w.grownBy w' row := ⟨hb.os, hb.tape, hb.output, hb.size, fun k hk _ => hb.block k hk⟩

theorem fld53_1 (a b c : Value) (w : World) : (Instr.field 191 (.agg #[a, b, c]) 1).run Tryz.prog w = .ok b w := by kernel_rfl
theorem fld53_2 (a b c : Value) (w : World) : (Instr.field 191 (.agg #[a, b, c]) 2).run Tryz.prog w = .ok c w := by kernel_rfl

theorem refuse_eq (c en : Nat) (t : RP.Tok) : RP.refuse c en t = ⟨refuseE en t c, t.at_⟩ := rfl

theorem PS.grown {pb : Nat} {ts : List RP.Tok} {c : Nat} {w w' : World} (h : PS pb ts c w) (hg : w.grownBy w' none) : PS pb ts c w' :=
  h.below ⟨hg.os, hg.tape, hg.output, hg.size, fun k hk => hg.block k hk (by simp)⟩

set_option maxHeartbeats 1000000 in
set_option maxRecDepth 100000 in
theorem name_any (pb : Nat) (t : RP.Tok) (r : List RP.Tok) (c : Nat) (ht : t.text.length ≤ 100000) (w : World) (h : PS pb (t :: r) c w) :
    Calls Tryz.prog 167 #[.pointer (some ⟨pb, 0, none⟩)] w (Step pb c w (RP.nameP c (t :: r)) fun x v _ => v = .string ⟨x.toArray⟩) := by
  have hI := is_any 1 pb t r c w h
  by_cases h1 : t.kind = 1
  · have e1 : decide (t.kind = 1) = true := by simpa using h1
    rw [e1] at hI
    obtain ⟨tb, off, cap, c0, c1, f0, f1, hc, hcm, t0, t1, t2, -, -, -⟩ := h.open
    obtain ⟨y, hy⟩ : ∃ y : ByteArray, y = ⟨t.text.toArray⟩ := ⟨_, rfl⟩
    have hys : y.size = t.text.length := by rw [hy]; show t.text.toArray.size = _; simp
    by_cases h10 : 10 < t.text.length
    · have HR : Hid (RP.nameP c (t :: r) = .error ⟨refuseE 4 t c, t.at_⟩) := by show _ = _; rw [RP.nameP, if_pos h1, if_pos h10, refuse_eq]
      have hF := refuse_any 4 pb t r c w h
      rw [← hy] at t2
      have h10' : (10 : Int) < (y.size : Int) := by omega
      have hym : y.size ≤ 100000 := by omega
      clear h h1 e1 hy hys h10 ht
      go_enter Tryz.func167, Tryz.ntmps167
      go_wp2_with fail
      refine hI.mono ?_
      rintro e w' ⟨rfl, hw⟩
      obtain rfl := hw.symm
      go_wp2_with fail
      refine hF.mono ?_
      rintro e w2 ⟨⟨b, rfl, k1, k2, k3⟩, hb⟩
      go_wp2_with fail
      refine ⟨rfl, grown_below hb _, ?_⟩
      rw [HR.out]
      exact ⟨b, rfl, k1, k2, k3⟩
    · have HR : Hid (RP.nameP c (t :: r) = .ok (t.text, r)) := by show _ = _; rw [RP.nameP, if_pos h1, if_neg h10]
      have hF := take_yes pb t r c 1 h1 w h
      unfold tokV at hF
      rw [← hy] at t2 hF
      have h10' : (y.size : Int) ≤ 10 := by omega
      have HY : Hid (y = ⟨t.text.toArray⟩) := hy
      have hfl := fld53_2
      clear h h1 e1 hy hys h10 ht
      go_enter Tryz.func167, Tryz.ntmps167
      go_wp2_with fail
      refine hI.mono ?_
      rintro e w' ⟨rfl, hw⟩
      obtain rfl := hw.symm
      go_wp2_with fail
      refine hF.mono ?_
      rintro e w2 ⟨rfl, hP, hg⟩
      have HP : Hid (PS pb r c w2) := hP
      clear hP hF hI
      go_wp2_with fail
      go_ret
      refine ⟨hg, ?_⟩
      rw [HR.out]
      exact ⟨HP.out, _, rfl, congrArg Value.string HY.out⟩
  · have e1 : decide (t.kind = 1) = false := by simpa using h1
    rw [e1] at hI
    have HR : Hid (RP.nameP c (t :: r) = .error ⟨refuseE 3 t c, t.at_⟩) := by show _ = _; rw [RP.nameP, if_neg h1, refuse_eq]
    have hF := take_no pb t r c 1 h1 w h
    clear h h1 e1 ht
    go_enter Tryz.func167, Tryz.ntmps167
    go_wp2_with fail
    refine hI.mono ?_
    rintro e w' ⟨rfl, hw⟩
    obtain rfl := hw.symm
    go_wp2_with fail
    refine hF.mono ?_
    rintro e w2 ⟨⟨b, rfl, k1, k2, k3⟩, hb⟩
    go_wp2_with fail
    refine ⟨rfl, grown_below hb _, ?_⟩
    rw [HR.out]
    exact ⟨b, rfl, k1, k2, k3⟩

set_option maxHeartbeats 1000000 in
set_option maxRecDepth 100000 in
theorem breaks_any (pb : Nat) (t : RP.Tok) (r : List RP.Tok) (c : Nat) (w : World) (h : PS pb (t :: r) c w) :
    Calls Tryz.prog 114 #[.pointer (some ⟨pb, 0, none⟩)] w (Step pb c w (RP.breaksP c (t :: r)) fun x v _ => v = .bool x) := by
  have hI := is_any 6 pb t r c w h
  by_cases h6 : t.kind = 6
  · have e1 : decide (t.kind = 6) = true := by simpa using h6
    rw [e1] at hI
    have HR : Hid (RP.breaksP c (t :: r) = .ok (true, r)) := by show _ = _; rw [RP.breaksP, if_pos h6]
    have hF := take_yes pb t r c 6 h6 w h
    unfold tokV at hF
    clear h h6 e1
    go_enter Tryz.func114, Tryz.ntmps114
    go_wp2_with fail
    refine hI.mono ?_
    rintro e w' ⟨rfl, hw⟩
    obtain rfl := hw.symm
    go_wp2_with fail
    refine hF.mono ?_
    rintro e w2 ⟨rfl, hP, hg⟩
    have HP : Hid (PS pb r c w2) := hP
    clear hP hF hI
    go_wp2_with fail
    go_ret
    refine ⟨hg, ?_⟩
    rw [HR.out]
    exact ⟨HP.out, _, rfl, rfl⟩
  · have e1 : decide (t.kind = 6) = false := by simpa using h6
    rw [e1] at hI
    by_cases h7 : t.kind = 7
    · have HR : Hid (RP.breaksP c (t :: r) = .ok (false, r)) := by show _ = _; rw [RP.breaksP, if_neg h6, if_pos h7]
      have hF := take_yes pb t r c 7 h7 w h
      unfold tokV at hF
      clear h h6 e1 h7
      go_enter Tryz.func114, Tryz.ntmps114
      go_wp2_with fail
      refine hI.mono ?_
      rintro e w' ⟨rfl, hw⟩
      obtain rfl := hw.symm
      go_wp2_with fail
      refine hF.mono ?_
      rintro e w2 ⟨rfl, hP, hg⟩
      have HP : Hid (PS pb r c w2) := hP
      clear hP hF hI
      go_wp2_with fail
      go_ret
      refine ⟨hg, ?_⟩
      rw [HR.out]
      exact ⟨HP.out, _, rfl, rfl⟩
    · have HR : Hid (RP.breaksP c (t :: r) = .error ⟨refuseE 3 t c, t.at_⟩) := by show _ = _; rw [RP.breaksP, if_neg h6, if_neg h7, refuse_eq]
      have hF := take_no pb t r c 7 h7 w h
      clear h h6 e1 h7
      go_enter Tryz.func114, Tryz.ntmps114
      go_wp2_with fail
      refine hI.mono ?_
      rintro e w' ⟨rfl, hw⟩
      obtain rfl := hw.symm
      go_wp2_with fail
      refine hF.mono ?_
      rintro e w2 ⟨⟨b, rfl, k1, k2, k3⟩, hb⟩
      go_wp2_with fail
      refine ⟨rfl, grown_below hb _, ?_⟩
      rw [HR.out]
      exact ⟨b, rfl, k1, k2, k3⟩

theorem ba_eq {x y : List UInt8} : (⟨x.toArray⟩ : ByteArray) = ⟨y.toArray⟩ ↔ x = y := by
  constructor
  · intro h
    have := congrArg (fun b : ByteArray => b.data.toList) h
    simpa using this
  · rintro rfl; rfl

set_option maxHeartbeats 1000000 in
set_option maxRecDepth 100000 in
theorem codeOf_any (x : List UInt8) (w : World) : Calls Tryz.prog 202 #[.string ⟨x.toArray⟩] w fun e w' => e = .returned (.int .i64 (RP.codeOf x : Nat)) ∧ w' = w := by
  have hn : ∀ y : List UInt8, x ≠ y → ((⟨x.toArray⟩ : ByteArray).toList == y) = false := fun y h => by rw [Lib.toList_data]; simpa using h
  by_cases h1 : x = [124]
  · subst h1
    go_enter Tryz.func202, Tryz.ntmps202
    go_wp2_with fail
    go_ret
    exact ⟨ret_int (by decide), rfl⟩
  · have q1 := hn [124] h1
    by_cases h2 : x = [38]
    · subst h2
      go_enter Tryz.func202, Tryz.ntmps202
      go_wp2_with fail
      go_ret
      exact ⟨ret_int (by decide), rfl⟩
    · have q2 := hn [38] h2
      by_cases h3 : x = [45]
      · subst h3
        go_enter Tryz.func202, Tryz.ntmps202
        go_wp2_with fail
        go_ret
        exact ⟨ret_int (by decide), rfl⟩
      · have q3 := hn [45] h3
        have HC : Hid (RP.codeOf x = 0) := by show _ = _; unfold RP.codeOf; rw [if_neg h1, if_neg h2, if_neg h3]
        clear hn h1 h2 h3
        generalize (⟨x.toArray⟩ : ByteArray) = y at q1 q2 q3 ⊢
        go_enter Tryz.func202, Tryz.ntmps202
        go_wp2_with fail
        go_ret
        exact ⟨ret_int (by rw [HC.out]; rfl), rfl⟩

end Go.Proofs.YtjbdlihlcoldlaaGreatDoor.Q
