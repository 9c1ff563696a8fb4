/- The contract of appendPattern. -/
import Derived.Test.YtjbmdnkpfkelmaaGreatDoorPriC
import Derived.Test.YtjbmdnkpfkelmaaGreatDoorPriD
namespace RP

theorem rowT_count (c : Nat) (hc : c = 4 ∨ c = 5) : ∀ l : List (List UInt8 × Nat), l.length ≤ (rowT c false l).length
  | [] => by simp
  | x :: l => by
    have h1 := rowT_count c hc l
    have h2 : 1 ≤ (btw c).length := by rcases hc with rfl | rfl <;> decide
    rw [rowT]
    simp only [List.length_append, List.length_cons, Bool.false_eq_true, if_false]
    omega

theorem rowT_count1 (c : Nat) (hc : c = 4 ∨ c = 5) : ∀ l : List (List UInt8 × Nat), l.length ≤ (rowT c true l).length + 1
  | [] => by simp
  | x :: l => by
    have h1 := rowT_count c hc l
    rw [rowT]
    simp only [List.length_append, List.length_cons]
    omega

end RP
namespace Go.Proofs.YtjbmdnkpfkelmaaGreatDoor.Q
open Go.RowKit Go.Shelf

set_option maxHeartbeats 1000000 in
set_option maxRecDepth 100000 in
theorem pat_one (k : RP.K) : PC (.one k) := by
  intro W0 v pv xs w hP hB hp hO hl
  obtain ⟨b, kv, e, -, h2, h3⟩ := hp
  obtain rfl : pv = _ := by simpa using e
  have h2' := heap_W0 hB.2.1 h2
  have c0 := loc_cell (k := 0) h2' rfl
  have c1 := loc_cell (k := 1) h2' rfl
  obtain ⟨ao, n, cp, rfl, -⟩ := hB.slice
  have hC := akind_any k W0 _ kv xs w hP hB h3 hO.2 (by have : xs.length + k.text.length + 100 ≤ 1000000 := hl; omega)
  obtain ⟨kb, rfl⟩ := h3.ptr
  clear hP hB hO hl e h2 h3 h2'
  show Calls _ _ _ _ (Out W0 xs k.text w)
  generalize k.text = T at hC ⊢
  go_enter Tryz.func46, Tryz.ntmps46
  go_wp2_with fail
  refine hC.mono ?_
  rintro e w2 ⟨v2, rfl, hB2, hO2⟩
  obtain ⟨ao2, n2, cp2, rfl, -⟩ := hB2.slice
  have HB2 : Hid (Buf W0 (.slice ao2 n2 cp2) (xs ++ T) w2 ∧ Lib.OthersKept 5 none w w2) := ⟨hB2, hO2⟩
  clear hB2 hO2 hC
  go_wp2_with fail
  go_ret
  exact ⟨_, rfl, HB2.out⟩

set_option maxHeartbeats 1000000 in
set_option maxRecDepth 100000 in
theorem pat_any_ : PC .any := by
  intro W0 v pv xs w hP hB hp hO hl
  obtain ⟨b, e, -, h2⟩ := hp
  obtain rfl : pv = _ := by simpa using e
  have h2' := heap_W0 hB.2.1 h2
  have c0 := loc_cell (k := 0) h2' rfl
  obtain ⟨ao, n, cp, rfl, -⟩ := hB.slice
  obtain ⟨v1, w1, hr1, hB1, hO1⟩ := hB.byte 41 46 (by omega)
  obtain ⟨ao1, n1, cp1, rfl, -⟩ := hB1.slice
  have HR1 : Hid ((Builtin.append_ #[41, 41] 41 #[.slice ao n cp, .slice (some ⟨w.heap.size, 0, none⟩) 1 1]).run Tryz.prog (w.alloc (.cells #[.int .u8 46] 5)) = .ok (.slice ao1 n1 cp1) w1) := hr1
  have HB1 : Hid (Buf W0 (.slice ao1 n1 cp1) (xs ++ [46]) w1 ∧ Lib.OthersKept 5 none w w1) := ⟨hB1, hO1⟩
  clear hP hB hO hl e h2 h2' hr1 hB1 hO1
  show Calls _ _ _ _ (Out W0 xs [46] w)
  go_enter Tryz.func46, Tryz.ntmps46
  go_wp2_with (at_builtin; refine Lib.wpList_append_run _ rfl _ _ _ _ rfl _ _ rfl rfl _ _ HR1.out ?_)
  clear HR1
  go_wp2_with fail
  go_ret
  exact ⟨_, rfl, HB1.out⟩

set_option maxHeartbeats 1000000 in
set_option maxRecDepth 100000 in
theorem pat_edge : PC .edge := by
  intro W0 v pv xs w hP hB hp hO hl
  obtain ⟨b, e, -, h2⟩ := hp
  obtain rfl : pv = _ := by simpa using e
  have h2' := heap_W0 hB.2.1 h2
  have c0 := loc_cell (k := 0) h2' rfl
  obtain ⟨ao, n, cp, rfl, -⟩ := hB.slice
  obtain ⟨v1, w1, hr1, hB1, hO1⟩ := hB.byte 41 36 (by omega)
  obtain ⟨ao1, n1, cp1, rfl, -⟩ := hB1.slice
  have HR1 : Hid ((Builtin.append_ #[41, 41] 41 #[.slice ao n cp, .slice (some ⟨w.heap.size, 0, none⟩) 1 1]).run Tryz.prog (w.alloc (.cells #[.int .u8 36] 5)) = .ok (.slice ao1 n1 cp1) w1) := hr1
  have HB1 : Hid (Buf W0 (.slice ao1 n1 cp1) (xs ++ [36]) w1 ∧ Lib.OthersKept 5 none w w1) := ⟨hB1, hO1⟩
  clear hP hB hO hl e h2 h2' hr1 hB1 hO1
  show Calls _ _ _ _ (Out W0 xs [36] w)
  go_enter Tryz.func46, Tryz.ntmps46
  go_wp2_with (at_builtin; refine Lib.wpList_append_run _ rfl _ _ _ _ rfl _ _ rfl rfl _ _ HR1.out ?_)
  clear HR1
  go_wp2_with fail
  go_ret
  exact ⟨_, rfl, HB1.out⟩

set_option maxHeartbeats 1000000 in
set_option maxRecDepth 100000 in
theorem pat_cat (ps : RP.Pt) (hq : ∀ q ∈ ps.parts, PC q) : PC (.cat ps) := by
  intro W0 v pv xs w hP hB hp hO hl
  obtain ⟨b, sv, ws, e, -, h2, h3, h4⟩ := hp
  obtain rfl : pv = _ := by simpa using e
  have h2' := heap_W0 hB.2.1 h2
  have c0 := loc_cell (k := 0) h2' rfl
  obtain ⟨ao, n, cp, rfl, -⟩ := hB.slice
  obtain ⟨hpl, hpo⟩ := RP.parts_list ps hO.2
  have hT : (RP.Pt.cat ps).text = RP.rowT 4 true (ps.parts.map RP.tP) := by
    show ps.txt 4 true = _
    rw [← RP.listOf_txt, hpl]
  rw [hT] at hl ⊢
  have hcnt := RP.rowT_count1 4 (.inl rfl) (ps.parts.map RP.tP)
  rw [List.length_map] at hcnt
  have hps : PsAt (fun _ => True) W0 ws ps.parts := by show PAt _ _ _ _; rw [hpl]; exact h4
  have hC := parts_any 4 ps.parts hq hpo W0 _ xs w b _ sv _ _ ws hP hB h2 h3 hps hl (by omega)
  replace hC : Calls Tryz.prog 54 #[.slice ao n cp, .pointer (some ⟨b, 0, none⟩), .string ⟨#[32]⟩] w _ := hC
  clear hP hB hO hl e h2 h3 h4 h2' hpl hpo hT hcnt hps hq
  generalize RP.rowT 4 true (ps.parts.map RP.tP) = T at hC ⊢
  go_enter Tryz.func46, Tryz.ntmps46
  go_wp2_with fail
  refine hC.mono ?_
  rintro e w2 ⟨v2, rfl, hB2, hO2⟩
  obtain ⟨ao2, n2, cp2, rfl, -⟩ := hB2.slice
  have HB2 : Hid (Buf W0 (.slice ao2 n2 cp2) (xs ++ T) w2 ∧ Lib.OthersKept 5 none w w2) := ⟨hB2, hO2⟩
  clear hB2 hO2 hC
  go_wp2_with fail
  go_ret
  exact ⟨_, rfl, HB2.out⟩

set_option maxHeartbeats 1000000 in
set_option maxRecDepth 100000 in
theorem pat_alt (ps : RP.Pt) (hq : ∀ q ∈ ps.parts, PC q) : PC (.alt ps) := by
  intro W0 v pv xs w hP hB hp hO hl
  obtain ⟨b, sv, ws, e, -, h2, h3, h4⟩ := hp
  obtain rfl : pv = _ := by simpa using e
  have h2' := heap_W0 hB.2.1 h2
  have c0 := loc_cell (k := 0) h2' rfl
  obtain ⟨ao, n, cp, rfl, -⟩ := hB.slice
  obtain ⟨hpl, hpo⟩ := RP.parts_list ps hO.2
  have hT : (RP.Pt.alt ps).text = RP.rowT 5 true (ps.parts.map RP.tP) := by
    show ps.txt 5 true = _
    rw [← RP.listOf_txt, hpl]
  rw [hT] at hl ⊢
  have hcnt := RP.rowT_count1 5 (.inr rfl) (ps.parts.map RP.tP)
  rw [List.length_map] at hcnt
  have hps : PsAt (fun _ => True) W0 ws ps.parts := by show PAt _ _ _ _; rw [hpl]; exact h4
  have hC := parts_any 5 ps.parts hq hpo W0 _ xs w b _ sv _ _ ws hP hB h2 h3 hps hl (by omega)
  replace hC : Calls Tryz.prog 54 #[.slice ao n cp, .pointer (some ⟨b, 0, none⟩), .string ⟨#[32, 124, 32]⟩] w _ := hC
  clear hP hB hO hl e h2 h3 h4 h2' hpl hpo hT hcnt hps hq
  generalize RP.rowT 5 true (ps.parts.map RP.tP) = T at hC ⊢
  go_enter Tryz.func46, Tryz.ntmps46
  go_wp2_with fail
  refine hC.mono ?_
  rintro e w2 ⟨v2, rfl, hB2, hO2⟩
  obtain ⟨ao2, n2, cp2, rfl, -⟩ := hB2.slice
  have HB2 : Hid (Buf W0 (.slice ao2 n2 cp2) (xs ++ T) w2 ∧ Lib.OthersKept 5 none w w2) := ⟨hB2, hO2⟩
  clear hB2 hO2 hC
  go_wp2_with fail
  go_ret
  exact ⟨_, rfl, HB2.out⟩

theorem PAt.one_of {ok : Nat → Prop} {w : World} {ws : List Value} {p : RP.Pt} (h : PAt ok w ws p) (ho : p.Ok false) : ∃ v, ws = [v] := by
  cases p with
  | one k => obtain ⟨b, kv, e, _⟩ := h; exact ⟨_, e⟩
  | any => obtain ⟨b, e, _⟩ := h; exact ⟨_, e⟩
  | edge => obtain ⟨b, e, _⟩ := h; exact ⟨_, e⟩
  | cat ps => obtain ⟨b, sv, ws, e, _⟩ := h; exact ⟨_, e⟩
  | alt ps => obtain ⟨b, sv, ws, e, _⟩ := h; exact ⟨_, e⟩
  | many p lo hi => obtain ⟨b, sv, ws, e, _⟩ := h; exact ⟨_, e⟩
  | nil => cases ho
  | cons p ps => cases ho.1

set_option maxHeartbeats 2000000 in
set_option maxRecDepth 100000 in
theorem pat_many (p : RP.Pt) (lo hi : Int) (hq : PC p) : PC (.many p lo hi) := by
  intro W0 v pv xs w hP hB hp hO hl
  obtain ⟨b, sv, ws, e, -, h2, h3, h4⟩ := hp
  obtain rfl : pv = _ := by simpa using e
  have h2' := heap_W0 hB.2.1 h2
  have c0 := loc_cell (k := 0) h2' rfl
  have c3 := loc_cell (k := 3) h2' rfl
  have c4 := loc_cell (k := 4) h2' rfl
  obtain ⟨ao, n, cp, rfl, -⟩ := hB.slice
  obtain ⟨-, hpo, hlo, hlo2, hhi, hhi2⟩ := hO
  obtain ⟨u, rfl⟩ := h4.one_of hpo
  have hT : RP.rowT 6 true ([p].map RP.tP) = RP.wrapT 6 p p.text := by
    show [] ++ RP.wrapT 6 p p.text ++ [] = _
    simp
  have hlen : xs.length + ((RP.wrapT 6 p p.text).length + (RP.timesT lo hi).length) + 100 ≤ 1000000 := by
    have : xs.length + (RP.wrapT 6 p p.text ++ RP.timesT lo hi).length + 100 ≤ 1000000 := hl
    rw [List.length_append] at this
    exact this
  have hps : PsAt (fun _ => True) W0 [u] [p] := ⟨u, [], rfl, h4, rfl⟩
  have hC := parts_any 6 [p] (fun q h => by simp at h; rw [h]; exact hq) (fun q h => by simp at h; rw [h]; exact hpo) W0 _ xs w.drew b _ sv _ _ [u] hP hB.drew h2 h3 hps (by rw [hT]; omega) (by simp)
  rw [hT] at hC
  replace hC : Calls Tryz.prog 54 #[.slice ao n cp, .pointer (some ⟨b, 0, none⟩), .string ⟨#[]⟩] w.drew _ := hC
  have HD : Hid (∀ v xs w, Buf W0 v xs w → xs.length + 60 ≤ 1000000 → Calls Tryz.prog 55 #[v, .int .i64 lo, .int .i64 hi] w (Out W0 xs (RP.timesT lo hi) w)) := fun v xs w h hl => times_any' lo hi ⟨hlo, hlo2, hhi, hhi2⟩ hP h hl
  have HBl : Hid (w.drew.heap[b]? = some (.cells #[.int .i64 6, .pointer none, sv, .int .i64 lo, .int .i64 hi] 94)) := h2'
  have HL : Hid (xs.length + ((RP.wrapT 6 p p.text).length + (RP.timesT lo hi).length) + 100 ≤ 1000000) := hlen
  clear hP hB hl e h2 h3 h4 h2' hpo hT hps hq hlen hlo hlo2 hhi hhi2
  show Calls _ _ _ _ (Out W0 xs (RP.wrapT 6 p p.text ++ RP.timesT lo hi) w)
  generalize RP.wrapT 6 p p.text = T at hC HL ⊢
  generalize RP.timesT lo hi = TT at HD HL ⊢
  go_enter Tryz.func46, Tryz.ntmps46
  go_wp2_with fail
  go_region_held3 (fun W => W.cell? ⟨b, 3, none⟩ = some (.int .i64 lo) ∧ W.cell? ⟨b, 4, none⟩ = some (.int .i64 hi)) (first | exact ⟨c3, c4⟩ | exact ⟨cell_kept (Lib.OthersKept.trans hO2 hO3) HBl.out (by decide) rfl, cell_kept (Lib.OthersKept.trans hO2 hO3) HBl.out (by decide) rfl⟩ | exact ⟨cell_kept (by assumption) HBl.out (by decide) rfl, cell_kept (by assumption) HBl.out (by decide) rfl⟩)
    (first | (go_at_call 54; refine hC.mono ?_; rintro e w2 ⟨v2, rfl, hB2, hO2⟩) | (go_at_call 55; refine (HD.out _ _ _ hB2 (by have := HL.out; simp only [List.length_append]; omega)).mono ?_; rintro e w3 ⟨v3, rfl, hB3, hO3⟩))
  obtain ⟨ao3, n3, cp3, rfl, -⟩ := hB3.slice
  have HB3 : Hid (Buf W0 (.slice ao3 n3 cp3) (xs ++ (T ++ TT)) w3 ∧ Lib.OthersKept 5 none w w3) := by
    rw [← List.append_assoc]
    exact ⟨hB3, Lib.OthersKept.trans (show Lib.OthersKept 5 none w w2 from hO2) hO3⟩
  clear hB3 hO3 hB2 hO2 hC
  go_wp2_with fail
  go_ret
  exact ⟨_, rfl, HB3.out⟩

theorem apat_any : ∀ p : RP.Pt, PC p ∧ ∀ q ∈ p.parts, PC q
  | .one k => ⟨pat_one k, fun q h => by cases h⟩
  | .any => ⟨pat_any_, fun q h => by cases h⟩
  | .edge => ⟨pat_edge, fun q h => by cases h⟩
  | .cat ps => ⟨pat_cat ps (apat_any ps).2, fun q h => by cases h⟩
  | .alt ps => ⟨pat_alt ps (apat_any ps).2, fun q h => by cases h⟩
  | .many p lo hi => ⟨pat_many p lo hi (apat_any p).1, fun q h => by cases h⟩
  | .nil => by
    refine ⟨?_, fun q h => by cases h⟩
    intro _ _ _ _ _ _ _ _ h
    cases h
  | .cons p ps => by
    have h1 := apat_any p
    have h2 := apat_any ps
    refine ⟨?_, fun q h => ?_⟩
    · intro _ _ _ _ _ _ _ _ h
      cases h.1
    · rcases List.mem_cons.1 h with rfl | h
      · exact h1.1
      · exact h2.2 q h

end Go.Proofs.YtjbmdnkpfkelmaaGreatDoor.Q

namespace Go.Proofs.YtjbmdnkpfkelmaaGreatDoor.Q
open Go.RowKit Go.Shelf

/-- A buffer cut off. -/
theorem Buf.cut {W0 : World} {ao : Option Addr} {n cp : Nat} {xs : List UInt8} {w : World} {c : UInt8} (h : Buf W0 (.slice ao n cp) (xs ++ [c]) w) : ∃ g, ao = some ⟨g, 0, none⟩ ∧ n = xs.length + 1 ∧ n ≤ cp ∧ Buf W0 (.slice (some ⟨g, 0, none⟩) xs.length cp) xs w := by
  obtain ⟨⟨h1, h2 | ⟨g, cap, cur, he, hg, hh, hn, hc, hs, ht⟩⟩, h3, h4⟩ := h
  · simp at h2
  · cases he
    refine ⟨g, rfl, by simp, hn, ⟨by simp [Lib.byteCells], .inr ⟨g, cp, cur, rfl, hg, hh, by simp at hn; omega, hc, hs, ?_⟩⟩, h3, h4⟩
    have e : cur.toList.take (xs.length * 1) = (cur.toList.take ((xs ++ [c]).length * 1)).take xs.length := by
      rw [List.take_take, Nat.mul_one, Nat.mul_one]
      congr 1
      simp
    rw [e, ht, Lib.byteCells_append]
    have : (Lib.byteCells xs).length = xs.length := Lib.byteCells_length xs
    rw [← this, List.take_left']
    rfl

set_option maxHeartbeats 2000000 in
set_option maxRecDepth 100000 in
theorem side_any (p : RP.Pt) (W0 : World) (v pv : Value) (xs : List UInt8) (w : World) (hP : PT W0) (hB : Buf W0 v xs w) (hp : PAt (fun _ => True) W0 [pv] p) (hO : p.Ok false) (hl : xs.length + p.text.length + 110 ≤ 1000000) :
    Calls Tryz.prog 28 #[v, pv] w (Out W0 xs (RP.sideT p) w) := by
  obtain ⟨ao, n, cp, rfl, HN⟩ := hB.slice
  have hn := HN.out
  have hnl : n ≤ 1000000 := by omega
  obtain ⟨v1, w1, hr1, hB1, hO1⟩ := hB.byte 41 32 (by omega)
  obtain ⟨ao1, n1, cp1, rfl, -⟩ := hB1.slice
  have HR1 : Hid ((Builtin.append_ #[41, 41] 41 #[.slice ao n cp, .slice (some ⟨w.heap.size, 0, none⟩) 1 1]).run Tryz.prog (w.alloc (.cells #[.int .u8 32] 5)) = .ok (.slice ao1 n1 cp1) w1) := hr1
  have hC := (apat_any p).1 W0 _ pv (xs ++ [32]) w1 hP hB1 hp hO (by simp; omega)
  obtain ⟨pb, rfl, -⟩ := hp.code hO
  have HO1 : Hid (Lib.OthersKept 5 none w w1) := hO1
  have HX : Hid (n = xs.length) := hn
  by_cases h0 : p.text = []
  · rw [h0] at hC
    have hs : RP.sideT p = [] := if_pos h0
    rw [hs]
    clear hB hl hr1 hB1 hO1 hP hp hO hn HN h0 hs
    go_enter Tryz.func28, Tryz.ntmps28
    go_wp2_with (at_builtin; refine Lib.wpList_append_run _ rfl _ _ _ _ rfl _ _ rfl rfl _ _ HR1.out ?_)
    clear HR1
    go_wp2_with fail
    refine hC.mono ?_
    rintro e w2 ⟨v2, rfl, hB2, hO2⟩
    rw [List.append_nil] at hB2
    obtain ⟨ao2, n2, cp2, rfl, -⟩ := hB2.slice
    obtain ⟨g, rfl, hn2, hncp, hB3⟩ := hB2.cut
    have hxn := HX.out
    rw [← hxn] at hn2 hB3
    subst hn2
    have HB3 : Hid (Buf W0 (.slice (some ⟨g, 0, none⟩) n cp2) (xs ++ []) w2 ∧ Lib.OthersKept 5 none w w2) := by
      rw [List.append_nil]
      exact ⟨hB3, HO1.out.trans hO2⟩
    have hcp : n ≤ cp2 := by omega
    clear hB2 hB3 hO2 hxn hC
    go_wp2_with fail
    go_ret
    exact ⟨_, rfl, HB3.out⟩
  · have hs : RP.sideT p = 32 :: p.text := if_neg h0
    rw [hs]
    have HT : Hid (p.text ≠ []) := h0
    have HL : Hid (xs.length + p.text.length + 110 ≤ 1000000) := hl
    clear hB hl hr1 hB1 hO1 hP hp hO hn HN h0 hs
    generalize p.text = T at hC HT HL ⊢
    go_enter Tryz.func28, Tryz.ntmps28
    go_wp2_with (at_builtin; refine Lib.wpList_append_run _ rfl _ _ _ _ rfl _ _ rfl rfl _ _ HR1.out ?_)
    clear HR1
    go_wp2_with fail
    refine hC.mono ?_
    rintro e w2 ⟨v2, rfl, hB2, hO2⟩
    obtain ⟨ao2, n2, cp2, rfl, hn2⟩ := hB2.slice
    have hne : ((n2 : Int) == (n : Int) + 1) = false := by
      have h1 := hn2.out
      have h2 := HX.out
      have h3 : 0 < T.length := List.length_pos_iff.2 HT.out
      simp only [List.length_append, List.length_cons, List.length_nil] at h1
      simp
      omega
    have hne' : ¬ (n2 : Int) = (n : Int) + 1 := by simpa using hne
    have HB3 : Hid (Buf W0 (.slice ao2 n2 cp2) (xs ++ 32 :: T) w2 ∧ Lib.OthersKept 5 none w w2) := by
      have e : xs ++ 32 :: T = xs ++ [32] ++ T := by simp
      rw [e]
      exact ⟨hB2, HO1.out.trans hO2⟩
    clear hB2 hO2 hC hn2
    go_wp2_with fail
    go_ret
    exact ⟨_, rfl, HB3.out⟩

end Go.Proofs.YtjbmdnkpfkelmaaGreatDoor.Q

namespace Go.Proofs.YtjbmdnkpfkelmaaGreatDoor.Q
open Go.RowKit Go.Shelf

set_option maxHeartbeats 4000000 in
set_option maxRecDepth 100000 in
theorem arule_any (r : RP.Ru) (W0 : World) (v bv av : Value) (xs : List UInt8) (w : World) (hP : PT W0) (hB : Buf W0 v xs w) (hb : PAt (fun _ => True) W0 [bv] r.before) (ha : PAt (fun _ => True) W0 [av] r.after) (hO : r.Ok) (hl : xs.length + r.text.length + 200 ≤ 1000000) :
    Calls Tryz.prog 13 #[v, .agg #[.int .i64 r.at_, .bool r.brk, bv, av]] w (Out W0 xs r.text w) := by
  obtain ⟨a, brk, p, q⟩ := r
  dsimp only at hb ha ⊢
  have ht : (⟨a, brk, p, q⟩ : RP.Ru).text = (if brk then RP.wBreak else RP.wKeep) ++ RP.sideT p ++ [32, 58] ++ RP.sideT q ++ [59, 10] := rfl
  rw [ht] at hl ⊢
  have hHd : Hid ((if brk then RP.wBreak else RP.wKeep).length ≤ 5) := by show _ ≤ _; split <;> decide
  simp only [List.length_append, List.length_cons, List.length_nil] at hl
  have s1 : p.text.length ≤ (RP.sideT p).length := by unfold RP.sideT; split <;> simp_all
  have s2 : q.text.length ≤ (RP.sideT q).length := by unfold RP.sideT; split <;> simp_all
  obtain ⟨ao, n, cp, rfl, -⟩ := hB.slice
  obtain ⟨pb, rfl, -⟩ := hb.code hO.1
  obtain ⟨qb, rfl, -⟩ := ha.code hO.2
  have hB1 := hB.alloc (.cells #[.int .i64 a, .bool brk, .pointer (some ⟨pb, 0, none⟩), .pointer (some ⟨qb, 0, none⟩)] 48)
  have hbox := heap_alloc_new w (.cells #[.int .i64 a, .bool brk, .pointer (some ⟨pb, 0, none⟩), .pointer (some ⟨qb, 0, none⟩)] 48)
  have hO1 := (Lib.OthersKept.refl 5 none w).alloc (.cells #[.int .i64 a, .bool brk, .pointer (some ⟨pb, 0, none⟩), .pointer (some ⟨qb, 0, none⟩)] 48)
  obtain ⟨v2, w2, hr2, hB2, hO2⟩ := hB1.str 41 ⟨(if brk then RP.wBreak else RP.wKeep).toArray⟩ (by have := hHd.out; simp only; omega)
  have hB2' : Buf W0 v2 (xs ++ (if brk then RP.wBreak else RP.wKeep)) w2 := hB2
  obtain ⟨ao2, n2, cp2, rfl, -⟩ := hB2.slice
  have hbox2 := kept_block hO2 hbox (by decide)
  have d2 := loc_cell (k := 2) hbox2 rfl
  have hC2 := side_any p W0 _ _ _ w2 hP hB2' hb hO.1 (by simp only [List.length_append]; omega)
  have HD : Hid (∀ v xs w, Buf W0 v xs w → xs.length + q.text.length + 110 ≤ 1000000 → Calls Tryz.prog 28 #[v, .pointer (some ⟨qb, 0, none⟩)] w (Out W0 xs (RP.sideT q) w)) := fun v xs w h hl => side_any q W0 v _ xs w hP h ha hO.2 hl
  have HL : Hid (xs.length + ((if brk then RP.wBreak else RP.wKeep).length + (RP.sideT p).length + 2 + (RP.sideT q).length + 2) + 200 ≤ 1000000) := by show _ ≤ _; omega
  have HS2 : Hid (q.text.length ≤ (RP.sideT q).length) := s2
  have HX2 : Hid (w2.heap[w.heap.size]? = some (.cells #[.int .i64 a, .bool brk, .pointer (some ⟨pb, 0, none⟩), .pointer (some ⟨qb, 0, none⟩)] 48)) := hbox2
  have HO2 : Hid (Lib.OthersKept 5 none w w2) := hO1.trans hO2
  have HR2 : Hid ((Builtin.append_ #[41, 9] 41 #[.slice ao n cp, .string ⟨(if brk then RP.wBreak else RP.wKeep).toArray⟩]).run Tryz.prog (w.alloc (.cells #[.int .i64 a, .bool brk, .pointer (some ⟨pb, 0, none⟩), .pointer (some ⟨qb, 0, none⟩)] 48)) = .ok (.slice ao2 n2 cp2) w2) := hr2
  clear hP hB hb ha hO hl ht s1 s2 hB1 hbox hO1 hr2 hB2 hB2' hO2 hbox2 hHd
  obtain ⟨TP, hTP⟩ : ∃ T, T = RP.sideT p := ⟨_, rfl⟩
  obtain ⟨TQ, hTQ⟩ : ∃ T, T = RP.sideT q := ⟨_, rfl⟩
  rw [← hTP] at hC2 HL ⊢
  rw [← hTQ] at HD HL HS2 ⊢
  clear hTP hTQ
  cases brk with
  | true =>
    replace HR2 : Hid ((Builtin.append_ #[41, 9] 41 #[.slice ao n cp, .string ⟨#[98, 114, 101, 97, 107]⟩]).run Tryz.prog (w.alloc (.cells #[.int .i64 a, .bool true, .pointer (some ⟨pb, 0, none⟩), .pointer (some ⟨qb, 0, none⟩)] 48)) = .ok (.slice ao2 n2 cp2) w2) := HR2
    replace HL : Hid (xs.length + (RP.wBreak.length + TP.length + 2 + TQ.length + 2) + 200 ≤ 1000000) := HL
    replace hC2 : Calls Tryz.prog 28 #[.slice ao2 n2 cp2, .pointer (some ⟨pb, 0, none⟩)] w2 (Out W0 (xs ++ RP.wBreak) TP w2) := hC2
    show Calls _ _ _ _ (Out W0 xs (RP.wBreak ++ TP ++ [32, 58] ++ TQ ++ [59, 10]) w)
    obtain ⟨TB, hTB⟩ : ∃ T, T = RP.wBreak := ⟨_, rfl⟩
    rw [← hTB] at hC2 HL ⊢
    clear hTB
    go_enter Tryz.func13, Tryz.ntmps13
    go_upto_region 4 with (at_builtin; refine Lib.wpList_append_run _ rfl _ _ _ _ rfl _ _ rfl rfl _ _ HR2.out ?_)
    clear HR2
    go_wp2_with fail
    refine hC2.mono ?_
    rintro e w3 ⟨v3, rfl, hB3, hO3⟩
    obtain ⟨ao3, n3, cp3, rfl, -⟩ := hB3.slice
    obtain ⟨v4, w4, hr4, hB4, hO4⟩ := hB3.str 41 ⟨#[32, 58]⟩ (by have := HL.out; simp only [List.length_append]; simp; omega)
    obtain ⟨ao4, n4, cp4, rfl, -⟩ := hB4.slice
    have hbox4 := kept_block (hO3.trans hO4) HX2.out (by decide)
    have d3 := loc_cell (k := 3) hbox4 rfl
    have HR4 : Hid ((Builtin.append_ #[41, 9] 41 #[.slice ao3 n3 cp3, .string ⟨#[32, 58]⟩]).run Tryz.prog w3 = .ok (.slice ao4 n4 cp4) w4) := hr4
    have hC4 := HD.out _ _ w4 hB4 (by have := HL.out; have := HS2.out; simp only [List.length_append, List.length_cons, List.length_nil]; omega)
    have HO4 : Hid (Lib.OthersKept 5 none w w4) := (HO2.out.trans hO3).trans hO4
    clear hC2 hB3 hO3 hr4 hB4 hO4 hbox4 HX2 HO2 HD d2
    go_upto_region 6 with (at_builtin; refine Lib.wpList_append_run _ rfl _ _ _ _ rfl _ _ rfl rfl _ _ HR4.out ?_)
    clear HR4
    go_wp2_with fail
    refine hC4.mono ?_
    rintro e w5 ⟨v5, rfl, hB5, hO5⟩
    obtain ⟨ao5, n5, cp5, rfl, -⟩ := hB5.slice
    obtain ⟨v6, w6, hr6, hB6, hO6⟩ := hB5.str 41 ⟨#[59, 10]⟩ (by have := HL.out; simp only [List.length_append, List.length_cons, List.length_nil]; omega)
    obtain ⟨ao6, n6, cp6, rfl, -⟩ := hB6.slice
    have HR6 : Hid ((Builtin.append_ #[41, 9] 41 #[.slice ao5 n5 cp5, .string ⟨#[59, 10]⟩]).run Tryz.prog w5 = .ok (.slice ao6 n6 cp6) w6) := hr6
    have HB6 : Hid (Buf W0 (.slice ao6 n6 cp6) (xs ++ (TB ++ TP ++ [32, 58] ++ TQ ++ [59, 10])) w6 ∧ Lib.OthersKept 5 none w w6) := by
      have e : xs ++ (TB ++ TP ++ [32, 58] ++ TQ ++ [59, 10]) = xs ++ TB ++ TP ++ [32, 58] ++ TQ ++ [59, 10] := by simp only [List.append_assoc]
      rw [e]
      exact ⟨hB6, (HO4.out.trans hO5).trans hO6⟩
    clear hC4 hB5 hO5 hr6 hB6 hO6 HO4 d3
    go_wp2_with (at_builtin; refine Lib.wpList_append_run _ rfl _ _ _ _ rfl _ _ rfl rfl _ _ HR6.out ?_)
    clear HR6
    go_wp2_with fail
    go_ret
    exact ⟨_, rfl, HB6.out⟩
  | false =>
    replace HR2 : Hid ((Builtin.append_ #[41, 9] 41 #[.slice ao n cp, .string ⟨#[107, 101, 101, 112]⟩]).run Tryz.prog (w.alloc (.cells #[.int .i64 a, .bool false, .pointer (some ⟨pb, 0, none⟩), .pointer (some ⟨qb, 0, none⟩)] 48)) = .ok (.slice ao2 n2 cp2) w2) := HR2
    replace HL : Hid (xs.length + (RP.wKeep.length + TP.length + 2 + TQ.length + 2) + 200 ≤ 1000000) := HL
    replace hC2 : Calls Tryz.prog 28 #[.slice ao2 n2 cp2, .pointer (some ⟨pb, 0, none⟩)] w2 (Out W0 (xs ++ RP.wKeep) TP w2) := hC2
    show Calls _ _ _ _ (Out W0 xs (RP.wKeep ++ TP ++ [32, 58] ++ TQ ++ [59, 10]) w)
    obtain ⟨TB, hTB⟩ : ∃ T, T = RP.wKeep := ⟨_, rfl⟩
    rw [← hTB] at hC2 HL ⊢
    clear hTB
    go_enter Tryz.func13, Tryz.ntmps13
    go_upto_region 4 with (at_builtin; refine Lib.wpList_append_run _ rfl _ _ _ _ rfl _ _ rfl rfl _ _ HR2.out ?_)
    clear HR2
    go_wp2_with fail
    refine hC2.mono ?_
    rintro e w3 ⟨v3, rfl, hB3, hO3⟩
    obtain ⟨ao3, n3, cp3, rfl, -⟩ := hB3.slice
    obtain ⟨v4, w4, hr4, hB4, hO4⟩ := hB3.str 41 ⟨#[32, 58]⟩ (by have := HL.out; simp only [List.length_append]; simp; omega)
    obtain ⟨ao4, n4, cp4, rfl, -⟩ := hB4.slice
    have hbox4 := kept_block (hO3.trans hO4) HX2.out (by decide)
    have d3 := loc_cell (k := 3) hbox4 rfl
    have HR4 : Hid ((Builtin.append_ #[41, 9] 41 #[.slice ao3 n3 cp3, .string ⟨#[32, 58]⟩]).run Tryz.prog w3 = .ok (.slice ao4 n4 cp4) w4) := hr4
    have hC4 := HD.out _ _ w4 hB4 (by have := HL.out; have := HS2.out; simp only [List.length_append, List.length_cons, List.length_nil]; omega)
    have HO4 : Hid (Lib.OthersKept 5 none w w4) := (HO2.out.trans hO3).trans hO4
    clear hC2 hB3 hO3 hr4 hB4 hO4 hbox4 HX2 HO2 HD d2
    go_upto_region 6 with (at_builtin; refine Lib.wpList_append_run _ rfl _ _ _ _ rfl _ _ rfl rfl _ _ HR4.out ?_)
    clear HR4
    go_wp2_with fail
    refine hC4.mono ?_
    rintro e w5 ⟨v5, rfl, hB5, hO5⟩
    obtain ⟨ao5, n5, cp5, rfl, -⟩ := hB5.slice
    obtain ⟨v6, w6, hr6, hB6, hO6⟩ := hB5.str 41 ⟨#[59, 10]⟩ (by have := HL.out; simp only [List.length_append, List.length_cons, List.length_nil]; omega)
    obtain ⟨ao6, n6, cp6, rfl, -⟩ := hB6.slice
    have HR6 : Hid ((Builtin.append_ #[41, 9] 41 #[.slice ao5 n5 cp5, .string ⟨#[59, 10]⟩]).run Tryz.prog w5 = .ok (.slice ao6 n6 cp6) w6) := hr6
    have HB6 : Hid (Buf W0 (.slice ao6 n6 cp6) (xs ++ (TB ++ TP ++ [32, 58] ++ TQ ++ [59, 10])) w6 ∧ Lib.OthersKept 5 none w w6) := by
      have e : xs ++ (TB ++ TP ++ [32, 58] ++ TQ ++ [59, 10]) = xs ++ TB ++ TP ++ [32, 58] ++ TQ ++ [59, 10] := by simp only [List.append_assoc]
      rw [e]
      exact ⟨hB6, (HO4.out.trans hO5).trans hO6⟩
    clear hC4 hB5 hO5 hr6 hB6 hO6 HO4 d3
    go_wp2_with (at_builtin; refine Lib.wpList_append_run _ rfl _ _ _ _ rfl _ _ rfl rfl _ _ HR6.out ?_)
    clear HR6
    go_wp2_with fail
    go_ret
    exact ⟨_, rfl, HB6.out⟩

end Go.Proofs.YtjbmdnkpfkelmaaGreatDoor.Q

namespace RP

theorem classesT_take (cs : List Cl) (k : Nat) (hk : k < cs.length) : classesT (cs.take (k + 1)) = classesT (cs.take k) ++ cs[k].text := by
  unfold classesT
  rw [List.take_succ_eq_append_getElem hk, List.flatMap_append, List.flatMap_cons, List.flatMap_nil, List.append_nil]

theorem rulesT_take (cs : List Ru) (k : Nat) (hk : k < cs.length) : rulesT (cs.take (k + 1)) = rulesT (cs.take k) ++ cs[k].text := by
  unfold rulesT
  rw [List.take_succ_eq_append_getElem hk, List.flatMap_append, List.flatMap_cons, List.flatMap_nil, List.append_nil]

theorem classesT_le (cs : List Cl) (k : Nat) : (classesT (cs.take k)).length ≤ (classesT cs).length := by
  conv => rhs; rw [← List.take_append_drop k cs]
  unfold classesT
  rw [List.flatMap_append, List.length_append]
  omega

theorem rulesT_le (cs : List Ru) (k : Nat) : (rulesT (cs.take k)).length ≤ (rulesT cs).length := by
  conv => rhs; rw [← List.take_append_drop k cs]
  unfold rulesT
  rw [List.flatMap_append, List.length_append]
  omega

end RP
namespace Go.Proofs.YtjbmdnkpfkelmaaGreatDoor.Q
open Go.RowKit Go.Shelf

theorem CsAt.get {ok : Nat → Prop} {w : World} : ∀ {cs : List RP.Cl} {vs : List Value} (_ : CsAt ok w vs cs) (k : Nat) (hk : k < cs.length), ∃ kv, vs[k * 3]? = some (.string ⟨cs[k].name.toArray⟩) ∧ vs[k * 3 + 1]? = some (.int .i64 cs[k].at_) ∧ vs[k * 3 + 2]? = some kv ∧ KAt ok w kv cs[k].kind
  | [], _, _, k, hk => by simp at hk
  | c :: cs, vs, ⟨kv, us, hu, h1, h2⟩, 0, _ => by subst hu; exact ⟨kv, rfl, rfl, rfl, h1⟩
  | c :: cs, vs, ⟨kv, us, hu, h1, h2⟩, k + 1, hk => by
    subst hu
    obtain ⟨v, h3, h4, h5, h6⟩ := CsAt.get (cs := cs) h2 k (by simpa using hk)
    have e0 : (k + 1) * 3 = k * 3 + 3 := by omega
    refine ⟨v, ?_, ?_, ?_, by simpa using h6⟩
    · rw [e0]; simpa using h3
    · rw [e0]; simpa using h4
    · rw [e0]; simpa using h5

theorem RsAt.get {ok : Nat → Prop} {w : World} : ∀ {cs : List RP.Ru} {vs : List Value} (_ : RsAt ok w vs cs) (k : Nat) (hk : k < cs.length), ∃ bv av, vs[k * 4]? = some (.int .i64 cs[k].at_) ∧ vs[k * 4 + 1]? = some (.bool cs[k].brk) ∧ vs[k * 4 + 2]? = some bv ∧ vs[k * 4 + 3]? = some av ∧ PAt ok w [bv] cs[k].before ∧ PAt ok w [av] cs[k].after
  | [], _, _, k, hk => by simp at hk
  | c :: cs, vs, ⟨bv, av, us, hu, _, h1, _, h2, h3⟩, 0, _ => by subst hu; exact ⟨bv, av, rfl, rfl, rfl, rfl, h1, h2⟩
  | c :: cs, vs, ⟨bv, av, us, hu, _, h1, _, h2, h3⟩, k + 1, hk => by
    subst hu
    obtain ⟨b, a, q1, q2, q3, q4, q5, q6⟩ := RsAt.get (cs := cs) h3 k (by simpa using hk)
    have e0 : (k + 1) * 4 = k * 4 + 4 := by omega
    refine ⟨b, a, ?_, ?_, ?_, ?_, by simpa using q5, by simpa using q6⟩
    · rw [e0]; simpa using q1
    · rw [e0]; simpa using q2
    · rw [e0]; simpa using q3
    · rw [e0]; simpa using q4

/-- A row's cells, from wherever it begins. -/
theorem row_cells {ok : Nat → Prop} {w : World} {e : TypeId} {size n : Nat} {sv : Value} {vs : List Value} (h : Row ok w e size sv n vs) :
    ∃ ao cp, sv = .slice ao n cp ∧ n ≤ cp ∧ ∀ (_ : vs ≠ []), ∃ g off, ao = some ⟨g, off, none⟩ ∧ g < w.heap.size ∧ ∀ j u, vs[j]? = some u → w.cell? ⟨g, off + j, none⟩ = some u := by
  have hk := h.1
  obtain ⟨⟨h1, h2 | ⟨g, cap, cur, rfl, hg, hh, hn, hc, hs, ht⟩⟩, _⟩ := h
  · obtain ⟨rfl, h0⟩ := h2
    refine ⟨none, 0, by rw [h0], by omega, fun hne => ?_⟩
    rw [h0, Nat.zero_mul] at h1
    exact absurd (List.length_eq_zero_iff.1 h1) hne
  · refine ⟨_, cap, rfl, hn, fun _ => ⟨g, 0, rfl, lt_of_block hh, fun j u hu => ?_⟩⟩
    have := hk.cells (g := g) rfl j u hu
    simp only [Addr.add_lit] at this
    exact this

theorem Buf.nil (w : World) : Buf w (.slice none 0 0) [] w := ⟨World.ownsRow_nil _ _ _ _, Below.refl _ _, Lib.OthersKept.refl _ _ _⟩

theorem conv_buf {W0 : World} {v : Value} {xs : List UInt8} {w : World} (h : Buf W0 v xs w) : (convert 41 9 v).run Tryz.prog w = .ok (.string ⟨xs.toArray⟩) w := conv_own (l := xs) h.1

set_option maxHeartbeats 8000000 in
set_option maxRecDepth 100000 in
theorem aprint_any (f : RP.Fi) (hF : f.Ok) (w : World) (hP : PT w) (v : Value) (h : FAt (fun _ => True) w v f) (hcl : f.classes.length ≤ 1000000) (hrl : f.rules.length ≤ 1000000) :
    Calls Tryz.prog 7 #[v] w fun e w' => e = .returned (.string ⟨f.text.toArray⟩) ∧ Below w.heap.size w w' := by
  obtain ⟨cs, rs, els⟩ := f
  obtain ⟨cv, rv, vs, us, rfl, h1, h2, h3, h4⟩ := h
  dsimp only at h1 h2 h3 h4 hcl hrl
  obtain ⟨co, cc, rfl, hcc, hcg⟩ := row_cells h1
  obtain ⟨ro, rc, rfl, hrc, hrg⟩ := row_cells h2
  obtain ⟨hok1, hok2, hlen⟩ := hF
  dsimp only at hok1 hok2
  have ht : (⟨cs, rs, els⟩ : RP.Fi).text = RP.classesT cs ++ RP.rulesT rs ++ (if els then [] else RP.wElseKeep) := rfl
  rw [ht] at hlen ⊢
  simp only [List.length_append] at hlen
  obtain ⟨n, hn⟩ : ∃ n, n = cs.length := ⟨_, rfl⟩
  obtain ⟨m, hm⟩ : ∃ m, m = rs.length := ⟨_, rfl⟩
  rw [← hn] at hcl hcc ⊢
  rw [← hm] at hrl hrc ⊢
  have HN : Hid (n = cs.length) := hn
  have HM : Hid (m = rs.length) := hm
  have HP : Hid (PT w) := hP
  have HC : Hid (CsAt (fun _ => True) w vs cs ∧ ∀ (_ : vs ≠ []), ∃ g off, co = some ⟨g, off, none⟩ ∧ g < w.heap.size ∧ ∀ j u, vs[j]? = some u → w.cell? ⟨g, off + j, none⟩ = some u) := ⟨h3, hcg⟩
  have HR : Hid (RsAt (fun _ => True) w us rs ∧ ∀ (_ : us ≠ []), ∃ g off, ro = some ⟨g, off, none⟩ ∧ g < w.heap.size ∧ ∀ j u, us[j]? = some u → w.cell? ⟨g, off + j, none⟩ = some u) := ⟨h4, hrg⟩
  have HO : Hid ((∀ c ∈ cs, c.kind.Ok) ∧ ∀ r ∈ rs, r.Ok) := ⟨hok1, hok2⟩
  have HL : Hid ((RP.classesT cs).length + (RP.rulesT rs).length + (if els then [] else RP.wElseKeep).length ≤ 900000) := by show _ ≤ _; exact hlen
  have hB1 := (Buf.nil w).alloc (.cells #[.slice co n cc, .slice ro m rc, .bool els] 26)
  have hbox := heap_alloc_new w (.cells #[.slice co n cc, .slice ro m rc, .bool els] 26)
  clear hP h1 h2 h3 h4 hok1 hok2 hlen ht hcg hrg hn hm
  go_enter Tryz.func7, Tryz.ntmps7
  go_wp2_with fail
  generalize hW1 : w.alloc (.cells #[.slice co n cc, .slice ro m rc, .bool els] 26) = W1 at hB1 hbox ⊢
  clear hW1
  have HX : Hid (W1.heap[w.heap.size]? = some (.cells #[.slice co n cc, .slice ro m rc, .bool els] 26)) := hbox
  have HB1 : Hid (Buf w (.slice none 0 0) [] W1) := hB1
  clear hbox hB1
  go_loopw [3, 11] (fun v i wr => ∃ (k : Nat), k ≤ n ∧ i = .int .i64 k ∧ Buf w v (RP.classesT (cs.take k)) wr ∧ Lib.OthersKept 5 none W1 wr) (fun _ i _ => n - (intOf i).toNat)
  case atStart => exact ⟨0, Nat.zero_le _, rfl, HB1.out, Lib.OthersKept.refl 5 none W1⟩
  case round =>
    obtain ⟨k, hk, rfl, hB, hOt⟩ := hrel
    obtain ⟨bo1, bn1, bc1, rfl, -⟩ := hB.slice
    by_cases hlt : k < n
    · have hkp : k < cs.length := by have := HN.out; omega
      obtain ⟨kv, y0, y1, y2, hKA⟩ := HC.out.1.get k hkp
      obtain ⟨g, off, hco, hgl, hcell⟩ := HC.out.2 (fun e => by rw [e] at y0; simp at y0)
      subst hco
      have x0 := cell_W0 hB.2.1 hgl (hcell _ _ y0)
      have x1 := cell_W0 hB.2.1 hgl (hcell _ _ y1)
      have x2 := cell_W0 hB.2.1 hgl (hcell _ _ y2)
      rw [← Nat.add_assoc] at x1 x2
      obtain ⟨c, hc⟩ : ∃ c, c = cs[k] := ⟨_, rfl⟩
      have hTk := RP.classesT_take cs k hkp
      have hTl := RP.classesT_le cs (k + 1)
      have hCO := HO.out.1 cs[k] (List.getElem_mem hkp)
      rw [← hc] at x0 x1 hKA hTk hCO
      rw [hTk, List.length_append] at hTl
      have hct : c.text.length = 6 + c.name.length + 3 + c.kind.text.length + 2 := by unfold RP.Cl.text; simp [RP.wClassB]; omega
      obtain ⟨kb, rfl⟩ := hKA.ptr
      have hki : (k : Int) < n := by omega
      have hHL := HL.out
      have hy : (⟨c.name.toArray⟩ : ByteArray).size ≤ 1000000 := by
        show c.name.toArray.size ≤ _
        simp
        omega
      have hBv := hB.alloc (.cells #[.string ⟨c.name.toArray⟩, .int .i64 c.at_, .pointer (some ⟨kb, 0, none⟩)] 44)
      have hbox := heap_alloc_new wr (.cells #[.string ⟨c.name.toArray⟩, .int .i64 c.at_, .pointer (some ⟨kb, 0, none⟩)] 44)
      have hOv := hOt.alloc (.cells #[.string ⟨c.name.toArray⟩, .int .i64 c.at_, .pointer (some ⟨kb, 0, none⟩)] 44)
      obtain ⟨Y, hY⟩ : ∃ Y : ByteArray, Y = ⟨#[99, 108, 97, 115, 115, 32]⟩ ++ ⟨c.name.toArray⟩ ++ ⟨#[32, 61, 32]⟩ := ⟨_, rfl⟩
      have hYl : Y.data.toList = RP.wClassB ++ c.name ++ [32, 61, 32] := by rw [hY]; simp [RP.wClassB]
      obtain ⟨v2, w2, hr2, hB2, hO2⟩ := hBv.str 41 Y (by rw [hYl]; simp [RP.wClassB]; omega)
      rw [hYl] at hB2
      obtain ⟨ao2, n2, cp2, rfl, -⟩ := hB2.slice
      have hbox2 := kept_block hO2 hbox (by decide)
      have d2 := loc_cell (k := 2) hbox2 rfl
      have hC := akind_any c.kind w _ _ _ w2 HP.out hB2 hKA hCO (by simp only [List.length_append, List.length_cons, List.length_nil, RP.wClassB]; omega)
      have HR2 : Hid ((Builtin.append_ #[41, 9] 41 #[.slice bo1 bn1 bc1, .string (⟨#[99, 108, 97, 115, 115, 32]⟩ ++ ⟨c.name.toArray⟩ ++ ⟨#[32, 61, 32]⟩)]).run Tryz.prog (wr.alloc (.cells #[.string ⟨c.name.toArray⟩, .int .i64 c.at_, .pointer (some ⟨kb, 0, none⟩)] 44)) = .ok (.slice ao2 n2 cp2) w2) := by rw [← hY]; exact hr2
      have HO2 : Hid (Lib.OthersKept 5 none W1 w2) := hOv.trans hO2
      have HTL : Hid ((RP.classesT (cs.take k)).length + (6 + c.name.length + 3 + c.kind.text.length + 2) ≤ 900000) := by show _ ≤ _; omega
      have HTK : Hid (RP.classesT (cs.take (k + 1)) = RP.classesT (cs.take k) ++ (RP.wClassB ++ c.name ++ [32, 61, 32]) ++ c.kind.text ++ [59, 10]) := by
        show _ = _
        rw [hTk]
        unfold RP.Cl.text
        simp only [List.append_assoc]
      clear hc hHL hB hOt y0 y1 y2 hcell hKA hTk hTl hCO hct hBv hbox hOv hY hYl hr2 hB2 hO2 hbox2
      generalize (⟨c.name.toArray⟩ : ByteArray) = y at x0 hy HR2
      generalize RP.classesT (cs.take k) = TC at hC HTL HTK
      obtain ⟨TN, hTN⟩ : ∃ T, T = RP.wClassB ++ c.name ++ [32, 61, 32] := ⟨_, rfl⟩
      have HTN : Hid (TN.length = 6 + c.name.length + 3) := by show _ = _; rw [hTN]; simp [RP.wClassB]; omega
      rw [← hTN] at hC HTK
      clear hTN
      generalize c.kind.text = TKd at hC HTL HTK
      go_upto_region 6 with (at_builtin; refine Lib.wpList_append_run _ rfl _ _ _ _ rfl _ _ rfl rfl _ _ HR2.out ?_)
      clear HR2 x0 x1 x2
      go_wp2_with fail
      refine hC.mono ?_
      rintro e w3 ⟨v3, rfl, hB3, hO3⟩
      obtain ⟨ao3, n3, cp3, rfl, -⟩ := hB3.slice
      obtain ⟨v4, w4, hr4, hB4, hO4⟩ := hB3.str 41 ⟨#[59, 10]⟩ (by have := HTL.out; have := HTN.out; simp only [List.length_append, List.length_cons, List.length_nil]; omega)
      obtain ⟨ao4, n4, cp4, rfl, -⟩ := hB4.slice
      have HR4 : Hid ((Builtin.append_ #[41, 9] 41 #[.slice ao3 n3 cp3, .string ⟨#[59, 10]⟩]).run Tryz.prog w3 = .ok (.slice ao4 n4 cp4) w4) := hr4
      have HB4 : Hid (Buf w (.slice ao4 n4 cp4) (RP.classesT (cs.take (k + 1))) w4 ∧ Lib.OthersKept 5 none W1 w4) := by
        rw [HTK.out]
        exact ⟨hB4, (HO2.out.trans hO3).trans hO4⟩
      clear hC hB3 hO3 hr4 hB4 hO4 d2
      go_wp2_with (at_builtin; refine Lib.wpList_append_run _ rfl _ _ _ _ rfl _ _ rfl rfl _ _ HR4.out ?_)
      clear HR4
      go_wp2_with fail
      go_roundw
      case rel => exact ⟨k + 1, by omega, by go_num, HB4.out⟩
      case measure => simp [intOf]; omega
    · obtain rfl : k = n := by omega
      have hbox := kept_block hOt HX.out (by decide)
      have b1 := loc_cell (k := 1) hbox rfl
      have HB2 : Hid (Buf w (.slice bo1 bn1 bc1) (RP.classesT cs) wr ∧ Lib.OthersKept 5 none W1 wr) := by
        have e : cs.take k = cs := by rw [HN.out, List.take_length]
        rw [e] at hB
        exact ⟨hB, hOt⟩
      clear hB hOt hbox
      go_wp2_with fail
      clear b1
      go_loopw [3, 30] (fun v i W => ∃ (j : Nat), j ≤ m ∧ i = .int .i64 j ∧ Buf w v (RP.classesT cs ++ RP.rulesT (rs.take j)) W ∧ Lib.OthersKept 5 none W1 W) (fun _ i _ => m - (intOf i).toNat)
      case atStart => exact ⟨0, Nat.zero_le _, rfl, by simpa [RP.rulesT] using HB2.out.1, HB2.out.2⟩
      case round =>
        obtain ⟨j, hj, rfl, hB, hOt⟩ := hrel
        clear HB2
        obtain ⟨bo2, bn2, bc2, rfl, -⟩ := hB.slice
        by_cases hjt : j < m
        · have hjp : j < rs.length := by have := HM.out; omega
          obtain ⟨bv, av, y0, y1, y2, y3, hPB, hPA⟩ := HR.out.1.get j hjp
          obtain ⟨g, off, hro, hgl, hcell⟩ := HR.out.2 (fun e => by rw [e] at y0; simp at y0)
          subst hro
          have x0 := cell_W0 hB.2.1 hgl (hcell _ _ y0)
          have x1 := cell_W0 hB.2.1 hgl (hcell _ _ y1)
          have x2 := cell_W0 hB.2.1 hgl (hcell _ _ y2)
          have x3 := cell_W0 hB.2.1 hgl (hcell _ _ y3)
          rw [← Nat.add_assoc] at x1 x2 x3
          obtain ⟨r, hr⟩ : ∃ r, r = rs[j] := ⟨_, rfl⟩
          have hTk := RP.rulesT_take rs j hjp
          have hTl := RP.rulesT_le rs (j + 1)
          have hRO := HO.out.2 rs[j] (List.getElem_mem hjp)
          rw [← hr] at x0 x1 hPB hPA hTk hRO
          rw [hTk, List.length_append] at hTl
          obtain ⟨pb, rfl, -⟩ := hPB.code hRO.1
          obtain ⟨qb, rfl, -⟩ := hPA.code hRO.2
          have hji : (j : Int) < m := by omega
          have hBv := hB.alloc (.cells #[.int .i64 r.at_, .bool r.brk, .pointer (some ⟨pb, 0, none⟩), .pointer (some ⟨qb, 0, none⟩)] 48)
          have hOv := hOt.alloc (.cells #[.int .i64 r.at_, .bool r.brk, .pointer (some ⟨pb, 0, none⟩), .pointer (some ⟨qb, 0, none⟩)] 48)
          have hC := arule_any r w _ _ _ _ _ HP.out hBv hPB hPA hRO (by have := HL.out; simp only [List.length_append]; omega)
          have HO2 : Hid (Lib.OthersKept 5 none W1 (wr.alloc (.cells #[.int .i64 r.at_, .bool r.brk, .pointer (some ⟨pb, 0, none⟩), .pointer (some ⟨qb, 0, none⟩)] 48))) := hOv
          have HTK : Hid (RP.classesT cs ++ RP.rulesT (rs.take (j + 1)) = RP.classesT cs ++ RP.rulesT (rs.take j) ++ r.text) := by show _ = _; rw [hTk]; simp only [List.append_assoc]
          clear hB hOt y0 y1 y2 y3 hcell hPB hPA hTk hTl hRO hBv hOv hr
          generalize r.text = TR at hC HTK
          generalize RP.classesT cs ++ RP.rulesT (rs.take j) = TC at hC HTK
          go_wp2_with fail
          refine hC.mono ?_
          rintro e w3 ⟨v3, rfl, hB3, hO3⟩
          obtain ⟨ao3, n3, cp3, rfl, -⟩ := hB3.slice
          have HB4 : Hid (Buf w (.slice ao3 n3 cp3) (RP.classesT cs ++ RP.rulesT (rs.take (j + 1))) w3 ∧ Lib.OthersKept 5 none W1 w3) := by
            rw [HTK.out]
            exact ⟨hB3, HO2.out.trans hO3⟩
          clear hC hB3 hO3 HO2 HTK
          go_wp2_with fail
          go_roundw
          case rel => exact ⟨j + 1, by omega, by go_num, HB4.out⟩
          case measure => simp [intOf]; omega
        · obtain rfl : j = m := by omega
          have hbox := kept_block hOt HX.out (by decide)
          have b2 := loc_cell (k := 2) hbox rfl
          have hB' : Buf w (.slice bo2 bn2 bc2) (RP.classesT cs ++ RP.rulesT rs) wr := by
            have e : rs.take j = rs := by rw [HM.out, List.take_length]
            rw [e] at hB
            exact hB
          clear hB hOt hbox
          cases els with
          | true =>
            have hcv := conv_buf hB'
            have HBl : Hid (Below w.heap.size w wr) := hB'.2.1
            obtain ⟨y, hy⟩ : ∃ y : ByteArray, y = ⟨(RP.classesT cs ++ RP.rulesT rs).toArray⟩ := ⟨_, rfl⟩
            rw [← hy] at hcv
            have HY : Hid (y = ⟨(RP.classesT cs ++ RP.rulesT rs).toArray⟩) := hy
            clear hB' hy
            go_wp2_with fail
            go_ret
            exact ⟨by rw [← HY.out]; rfl, HBl.out⟩
          | false =>
            have hHL := HL.out
            obtain ⟨v2, w2, hr2, hB2, hO2⟩ := hB'.str 41 ⟨#[101, 108, 115, 101, 32, 107, 101, 101, 112, 59, 10]⟩ (by simp only [List.length_append]; simp; omega)
            obtain ⟨ao2, n2, cp2, rfl, -⟩ := hB2.slice
            have HR2 : Hid ((Builtin.append_ #[41, 9] 41 #[.slice bo2 bn2 bc2, .string ⟨#[101, 108, 115, 101, 32, 107, 101, 101, 112, 59, 10]⟩]).run Tryz.prog wr = .ok (.slice ao2 n2 cp2) w2) := hr2
            have hcv := conv_buf hB2
            have HBl : Hid (Below w.heap.size w w2) := hB2.2.1
            obtain ⟨y, hy⟩ : ∃ y : ByteArray, y = ⟨(RP.classesT cs ++ RP.rulesT rs ++ RP.wElseKeep).toArray⟩ := ⟨_, rfl⟩
            replace hcv : (convert 41 9 (.slice ao2 n2 cp2)).run Tryz.prog w2 = .ok (.string y) w2 := by rw [hy]; exact hcv
            have HY : Hid (y = ⟨(RP.classesT cs ++ RP.rulesT rs ++ RP.wElseKeep).toArray⟩) := hy
            clear hB' hr2 hB2 hO2 hHL hy
            go_wp2_with (at_builtin; refine Lib.wpList_append_run _ rfl _ _ _ _ rfl _ _ rfl rfl _ _ HR2.out ?_)
            clear HR2
            go_wp2_with fail
            go_ret
            exact ⟨by rw [← List.append_assoc, ← HY.out]; rfl, HBl.out⟩

end Go.Proofs.YtjbmdnkpfkelmaaGreatDoor.Q
