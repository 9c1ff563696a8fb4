/- The contracts of wrapped and appendParts. -/
import Derived.Test.YtjbmdnkpfkelmaaGreatDoorPriAB
import Derived.Test.YtjbmdnkpfkelmaaGreatDoorPlain
import Derived.Deep.CutRange
namespace RP

def Pt.parts : Pt → List Pt
  | .cons p ps => p :: ps.parts
  | _ => []

theorem parts_list : ∀ p : Pt, p.Ok true → listOf p.parts = p ∧ ∀ q ∈ p.parts, q.Ok false
  | .nil, _ => ⟨rfl, fun q h => by cases h⟩
  | .cons p ps, h => by
    obtain ⟨h1, h2⟩ := parts_list ps h.2.2
    refine ⟨by show Pt.cons p (listOf ps.parts) = _; rw [h1], fun q hq => ?_⟩
    rcases List.mem_cons.1 hq with rfl | hq
    · exact h.2.1
    · exact h2 q hq
  | .one _, h => by cases h.1
  | .any, h => by cases h
  | .edge, h => by cases h
  | .cat _, h => by cases h.1
  | .alt _, h => by cases h.1
  | .many _ _ _, h => by cases h.1

theorem rowT_snoc (c : Nat) (x : List UInt8 × Nat) : ∀ (l : List (List UInt8 × Nat)) (f : Bool), rowT c f (l ++ [x]) = rowT c f l ++ ((if f = true ∧ l = [] then [] else btw c) ++ (if x.2 = 5 ∨ (x.2 = 4 ∧ c ≠ 5) then 40 :: (x.1 ++ [41]) else x.1))
  | [], f => by cases f <;> simp [rowT]
  | y :: l, f => by
    rw [List.cons_append, rowT, rowT, rowT_snoc c x l false]
    cases f <;> simp [List.append_assoc]

end RP
namespace Go.Proofs.YtjbmdnkpfkelmaaGreatDoor.Q
open Go.RowKit Go.Shelf

theorem PAt.code {ok : Nat → Prop} {w : World} {v : Value} {p : RP.Pt} (h : PAt ok w [v] p) (ho : p.Ok false) : ∃ b, v = .pointer (some ⟨b, 0, none⟩) ∧ w.cell? ⟨b, 0, none⟩ = some (.int .i64 p.code) := by
  have hv : ∀ {u : Value}, [v] = [u] → v = u := fun e => by simpa using e
  cases p with
  | one k => obtain ⟨b, kv, e, _, h2, _⟩ := h; exact ⟨b, hv e, loc_cell (k := 0) h2 rfl⟩
  | any => obtain ⟨b, e, _, h2⟩ := h; exact ⟨b, hv e, loc_cell (k := 0) h2 rfl⟩
  | edge => obtain ⟨b, e, _, h2⟩ := h; exact ⟨b, hv e, loc_cell (k := 0) h2 rfl⟩
  | cat ps => obtain ⟨b, sv, ws, e, _, h2, _⟩ := h; exact ⟨b, hv e, loc_cell (k := 0) h2 rfl⟩
  | alt ps => obtain ⟨b, sv, ws, e, _, h2, _⟩ := h; exact ⟨b, hv e, loc_cell (k := 0) h2 rfl⟩
  | many p lo hi => obtain ⟨b, sv, ws, e, _, h2, _⟩ := h; exact ⟨b, hv e, loc_cell (k := 0) h2 rfl⟩
  | nil => cases ho
  | cons p ps => cases ho.1

theorem PsAt.get {ok : Nat → Prop} {w : World} : ∀ {ps : List RP.Pt} {vs : List Value} (_ : PsAt ok w vs ps) (k : Nat) (hk : k < ps.length), ∃ v, vs[k]? = some v ∧ PAt ok w [v] ps[k]
  | [], _, _, k, hk => by simp at hk
  | p :: ps, vs, ⟨u, us, hu, h1, h2⟩, 0, _ => by subst hu; exact ⟨u, rfl, h1⟩
  | p :: ps, vs, ⟨u, us, hu, h1, h2⟩, k + 1, hk => by
    subst hu
    obtain ⟨v, h3, h4⟩ := PsAt.get (ps := ps) h2 k (by simpa using hk)
    exact ⟨v, by simpa using h3, by simpa using h4⟩

set_option maxHeartbeats 1000000 in
set_option maxRecDepth 100000 in
theorem wrapped_any (b n c : Nat) (w : World) (hc : w.cell? ⟨b, 0, none⟩ = some (.int .i64 n)) :
    Calls Tryz.prog 60 #[.pointer (some ⟨b, 0, none⟩), .int .i64 c] w fun e w' => e = .returned (.bool (decide (n = 5 ∨ (n = 4 ∧ c ≠ 5)))) ∧ w' = w := by
  by_cases h5 : n = 5
  · subst h5
    go_enter Tryz.func60, Tryz.ntmps60
    go_wp2_with fail
    go_ret
    exact ⟨by simp, rfl⟩
  by_cases h4 : n = 4
  · subst h4
    by_cases hc5 : c = 5
    · subst hc5
      go_enter Tryz.func60, Tryz.ntmps60
      go_wp2_with fail
      go_ret
      exact ⟨by simp, rfl⟩
    · have q1 : ((c : Int) != 5) = true := by simp; omega
      have q2 : ¬ (c : Int) = 5 := by omega
      have HC : Hid (¬ c = 5) := hc5
      clear hc5
      go_enter Tryz.func60, Tryz.ntmps60
      go_wp2_with fail
      go_ret
      have := HC.out
      exact ⟨by simp [this], rfl⟩
  · have q1 : ((n : Int) == 5) = false := by simp; omega
    have q2 : ((n : Int) == 4) = false := by simp; omega
    have q3 : ¬ (n : Int) = 5 := by omega
    have q4 : ¬ (n : Int) = 4 := by omega
    have HD : Hid (decide (n = 5 ∨ (n = 4 ∧ c ≠ 5)) = false) := by show _ = _; simp [h4, h5]
    clear h4 h5
    go_enter Tryz.func60, Tryz.ntmps60
    go_wp2_with fail
    go_ret
    rw [HD.out]
    exact ⟨rfl, rfl⟩

/-- appendPattern at this pattern. -/
def PC (p : RP.Pt) : Prop := ∀ (W0 : World) (v pv : Value) (xs : List UInt8) (w : World), PT W0 → Buf W0 v xs w → PAt (fun _ => True) W0 [pv] p → p.Ok false → xs.length + p.text.length + 100 ≤ 1000000 →
  Calls Tryz.prog 46 #[v, pv] w (Out W0 xs p.text w)

theorem row_get {ok : Nat → Prop} {w : World} {sv : Value} {ws : List Value} (h : Row ok w 46 1 sv ws.length ws) : ∃ ao cp, sv = .slice ao ws.length cp ∧ ∀ k u, ws[k]? = some u → ∃ g, ao = some ⟨g, 0, none⟩ ∧ g < w.heap.size ∧ w.cell? ⟨g, k, none⟩ = some u := by
  have hk := h.1
  obtain ⟨⟨h1, h2 | ⟨g, cap, cur, rfl, hg, hh, hn, hc, hs, ht⟩⟩, _⟩ := h
  · obtain ⟨rfl, h0⟩ := h2
    refine ⟨none, 0, by rw [h0], fun k u hu => ?_⟩
    have : ws = [] := List.length_eq_zero_iff.1 h0
    subst this
    simp at hu
  · refine ⟨_, cap, rfl, fun k u hu => ⟨g, rfl, lt_of_block hh, ?_⟩⟩
    have := hk.cells (g := g) rfl k u hu
    simp only [Addr.add_lit, Nat.zero_add] at this
    exact this

theorem wrapT_eq (c : Nat) (p : RP.Pt) : RP.wrapT c p p.text = if (RP.tP p).2 = 5 ∨ ((RP.tP p).2 = 4 ∧ c ≠ 5) then 40 :: ((RP.tP p).1 ++ [41]) else (RP.tP p).1 := rfl

theorem take_row (c : Nat) (pl : List RP.Pt) (k : Nat) (hk : k < pl.length) : RP.rowT c true ((pl.take (k + 1)).map RP.tP) = RP.rowT c true ((pl.take k).map RP.tP) ++ ((if k = 0 then [] else RP.btw c) ++ RP.wrapT c pl[k] pl[k].text) := by
  rw [List.take_succ_eq_append_getElem hk, List.map_append, List.map_cons, List.map_nil, RP.rowT_snoc, wrapT_eq]
  congr 2
  by_cases h0 : k = 0
  · subst h0; simp
  · rw [if_neg h0, if_neg]
    rintro ⟨_, e⟩
    have := congrArg List.length e
    simp only [List.length_map, List.length_take, List.length_nil] at this
    omega

theorem rowT_mono (c : Nat) (pl : List RP.Pt) (k : Nat) : (RP.rowT c true ((pl.take k).map RP.tP)).length ≤ (RP.rowT c true (pl.map RP.tP)).length := by
  have h : ∀ (a b : List (List UInt8 × Nat)) (f : Bool), (RP.rowT c f a).length ≤ (RP.rowT c f (a ++ b)).length := by
    intro a
    induction a with
    | nil => intro b f; simp [RP.rowT]
    | cons x a ih =>
      intro b f
      have := ih b false
      rw [List.cons_append, RP.rowT, RP.rowT]
      simp only [List.length_append]
      omega
  have := h ((pl.take k).map RP.tP) ((pl.drop k).map RP.tP) true
  rw [← List.map_append, List.take_append_drop] at this
  exact this

theorem heap_W0 {W0 w : World} {b : Nat} {o : Obj} (hb : Below W0.heap.size W0 w) (h : W0.heap[b]? = some o) : w.heap[b]? = some o := (hb.block b (Array.getElem?_eq_some_iff.1 h).1).trans h

theorem cell_W0 {W0 w : World} {a : Addr} {u : Value} (hb : Below W0.heap.size W0 w) (hl : a.block < W0.heap.size) (h : W0.cell? a = some u) : w.cell? a = some u := (hb.cell hl).trans h

theorem cell_lt {w : World} {a : Addr} {u : Value} (h : w.cell? a = some u) : a.block < w.heap.size := by
  by_cases hl : a.block < w.heap.size
  · exact hl
  · have : w.heap[a.block]? = none := Array.getElem?_eq_none (by omega)
    simp [World.cell?, this] at h

set_option maxHeartbeats 4000000 in
set_option maxRecDepth 100000 in
theorem parts_any (c : Nat) (pl : List RP.Pt) (hq : ∀ q ∈ pl, PC q) (ho : ∀ q ∈ pl, q.Ok false) (W0 : World) (v : Value) (xs : List UInt8) (w : World) (b : Nat) (kv sv lo hi : Value) (ws : List Value)
    (hP : PT W0) (hB : Buf W0 v xs w) (hb : W0.heap[b]? = some (.cells #[.int .i64 c, kv, sv, lo, hi] 94)) (hr : Row (fun _ => True) W0 46 1 sv ws.length ws) (hps : PsAt (fun _ => True) W0 ws pl)
    (hl : xs.length + (RP.rowT c true (pl.map RP.tP)).length + 100 ≤ 1000000) (hpl : pl.length ≤ 1000000) :
    Calls Tryz.prog 54 #[v, .pointer (some ⟨b, 0, none⟩), .string ⟨(RP.btw c).toArray⟩] w (Out W0 xs (RP.rowT c true (pl.map RP.tP)) w) := by
  have hlen := hps.length
  obtain ⟨ao, cp, rfl, hg⟩ := row_get hr
  have hbl := lt_of_block hb
  have h2 := heap_W0 hB.2.1 hb
  have c2 := loc_cell (k := 2) h2 rfl
  have HQ : Hid (∀ q ∈ pl, PC q ∧ q.Ok false) := fun q h => ⟨hq q h, ho q h⟩
  have HP : Hid (PT W0) := hP
  have HBl : Hid (W0.heap[b]? = some (.cells #[.int .i64 c, kv, .slice ao ws.length cp, lo, hi] 94)) := hb
  have HG : Hid (∀ k u, ws[k]? = some u → ∃ g, ao = some ⟨g, 0, none⟩ ∧ g < W0.heap.size ∧ W0.cell? ⟨g, k, none⟩ = some u) := hg
  have HPS : Hid (PsAt (fun _ => True) W0 ws pl) := hps
  have HLn : Hid (ws.length = pl.length) := hlen
  have HL : Hid (xs.length + (RP.rowT c true (pl.map RP.tP)).length + 100 ≤ 1000000) := hl
  have HB : Hid (Buf W0 v xs w) := hB
  have HPL : Hid (pl.length ≤ 1000000) := hpl
  obtain ⟨n, hn⟩ : ∃ n, n = ws.length := ⟨_, rfl⟩
  have HN : Hid (n = pl.length) := hn.trans hlen
  have hn1 : n ≤ 1000000 := by have := HPL.out; have := HN.out; omega
  rw [← hn] at c2
  obtain ⟨bo, bn, bc, rfl, -⟩ := hB.slice
  clear hP hB hb hr hps hl hpl hlen hg hq ho h2 hn
  go_enter Tryz.func54, Tryz.ntmps54
  go_wp2_with fail
  go_loopw [0, 14] (fun v i wr => ∃ (k : Nat), k ≤ n ∧ i = .int .i64 k ∧ Buf W0 v (xs ++ RP.rowT c true ((pl.take k).map RP.tP)) wr ∧ Lib.OthersKept 5 none w wr) (fun _ i _ => n - (intOf i).toNat)
  case atStart => exact ⟨0, Nat.zero_le _, rfl, by simpa [RP.rowT] using HB.out, Lib.OthersKept.refl 5 none w⟩
  case round =>
    obtain ⟨k, hk, rfl, hB, hO⟩ := hrel
    obtain ⟨bo1, bn1, bc1, rfl, -⟩ := hB.slice
    by_cases hlt : k < n
    · have hkp : k < pl.length := by have := HN.out; omega
      obtain ⟨pv, hpv, hPA⟩ := HPS.out.get k hkp
      obtain ⟨g, hao, hgl, hcell⟩ := HG.out k pv hpv
      subst hao
      have hcr := cell_W0 hB.2.1 hgl hcell
      obtain ⟨hC, hOk⟩ := HQ.out pl[k] (List.getElem_mem hkp)
      obtain ⟨pb, rfl, hpc⟩ := hPA.code hOk
      have hpl' : pb < W0.heap.size := cell_lt hpc
      have HTk := take_row c pl k hkp
      have hmono := rowT_mono c pl (k + 1)
      obtain ⟨q, hqe⟩ : ∃ q, q = pl[k] := ⟨_, rfl⟩
      rw [← hqe] at hC hOk hPA hpc HTk
      obtain ⟨T, hT⟩ : ∃ T, T = xs ++ RP.rowT c true ((pl.take k).map RP.tP) := ⟨_, rfl⟩
      have HTK : Hid (xs ++ RP.rowT c true ((pl.take (k + 1)).map RP.tP) = T ++ (if k = 0 then [] else RP.btw c) ++ RP.wrapT c q q.text) := by
        show _ = _
        rw [HTk, hT]
        simp only [List.append_assoc]
      have HLen : Hid ((T ++ (if k = 0 then [] else RP.btw c) ++ RP.wrapT c q q.text).length + 100 ≤ 1000000) := by
        show _ ≤ _
        rw [← HTK.out, List.length_append]
        have := HL.out
        omega
      rw [← hT] at hB
      have HC : Hid (PC q ∧ q.Ok false ∧ PAt (fun _ => True) W0 [.pointer (some ⟨pb, 0, none⟩)] q) := ⟨hC, hOk, hPA⟩
      have HPC : Hid (W0.cell? ⟨pb, 0, none⟩ = some (.int .i64 q.code)) := hpc
      have HB2 : Hid (Buf W0 (.slice bo1 bn1 bc1) T wr ∧ Lib.OthersKept 5 none w wr) := ⟨hB, hO⟩
      have hki : (k : Int) < n := by omega
      clear hB hO hC hOk hPA hpc HTk hmono hqe hT hcell hpv
      go_upto_if 20 with (fail)
      go_cut [0, 14] from 14 to 40 (fun v i W => i = .int .i64 k ∧ Buf W0 v (T ++ (if k = 0 then [] else RP.btw c)) W ∧ Lib.OthersKept 5 none w W)
      case first =>
        by_cases hk0 : k = 0
        · have hkz : ¬ 0 < k := by omega
          have HK0 : Hid (k = 0) := hk0
          clear hk0
          go_wp2
          go_meet
          rw [if_pos HK0.out, List.append_nil]
          exact ⟨rfl, HB2.out⟩
        · have hkz : 0 < k := by omega
          have HK0 : Hid (¬ k = 0) := hk0
          obtain ⟨v1, w1, hr1, hB1, hO1⟩ := HB2.out.1.str 41 ⟨(RP.btw c).toArray⟩ (by have := HLen.out; rw [if_neg hk0] at this; simp only [List.length_append] at this; simp; omega)
          obtain ⟨ao1, n1, cp1, rfl, -⟩ := hB1.slice
          have HR1 : Hid ((Builtin.append_ #[41, 9] 41 #[.slice bo1 bn1 bc1, .string ⟨(RP.btw c).toArray⟩]).run Tryz.prog wr = .ok (.slice ao1 n1 cp1) w1) := hr1
          have HB1 : Hid (Buf W0 (.slice ao1 n1 cp1) (T ++ RP.btw c) w1 ∧ Lib.OthersKept 5 none w w1) := ⟨hB1, HB2.out.2.trans hO1⟩
          clear hr1 hB1 hO1 hk0
          go_wp2_with (at_builtin; refine Lib.wpList_append_run _ rfl _ _ _ _ rfl _ _ rfl rfl _ _ HR1.out ?_)
          go_meet
          rw [if_neg HK0.out]
          exact ⟨rfl, HB1.out⟩
      case rest =>
        obtain ⟨rfl, hB3, hO3⟩ := hcut
        obtain ⟨ao1, n1, cp1, rfl, -⟩ := hB3.slice
        clear HB2 hcr
        obtain ⟨T2, hT2⟩ : ∃ T2, T2 = T ++ (if k = 0 then [] else RP.btw c) := ⟨_, rfl⟩
        rw [← hT2] at hB3 HTK HLen
        clear hT2
        have h2 := heap_W0 hB3.2.1 HBl.out
        have c0 := loc_cell (k := 0) h2 rfl
        have hpc := cell_W0 hB3.2.1 hpl' HPC.out
        have hW := wrapped_any pb q.code c wc hpc
        clear h2 hpc
        by_cases hw : q.code = 5 ∨ (q.code = 4 ∧ c ≠ 5)
        · have ew : RP.wrapT c q q.text = 40 :: (q.text ++ [41]) := if_pos hw
          rw [ew] at HTK HLen
          rw [show decide (q.code = 5 ∨ (q.code = 4 ∧ c ≠ 5)) = true by simpa using hw] at hW
          have hLen := HLen.out
          simp only [List.length_append, List.length_cons, List.length_nil] at hLen
          obtain ⟨v4, w4, hr4, hB4, hO4⟩ := hB3.byte 41 40 (by omega)
          obtain ⟨ao4, n4, cp4, rfl, -⟩ := hB4.slice
          have HR4 : Hid ((Builtin.append_ #[41, 41] 41 #[.slice ao1 n1 cp1, .slice (some ⟨wc.heap.size, 0, none⟩) 1 1]).run Tryz.prog (wc.alloc (.cells #[.int .u8 40] 5)) = .ok (.slice ao4 n4 cp4) w4) := hr4
          have hC := HC.out.1 W0 _ _ _ w4 HP.out hB4 HC.out.2.2 HC.out.2.1 (by simp only [List.length_append, List.length_cons, List.length_nil]; omega)
          have HO4 : Hid (Lib.OthersKept 5 none w w4) := hO3.trans hO4
          clear hr4 hB4 hO4 hB3 hO3 hLen
          generalize q.text = TQ at hC HTK HLen
          go_wp2_with fail
          refine hW.mono ?_
          rintro e w' ⟨rfl, hw'⟩
          obtain rfl := hw'.symm
          clear hW
          go_wp2_with (at_builtin; refine Lib.wpList_append_run _ rfl _ _ _ _ rfl _ _ rfl rfl _ _ HR4.out ?_)
          clear HR4
          go_wp2_with fail
          refine hC.mono ?_
          rintro e w5 ⟨v5, rfl, hB5, hO5⟩
          obtain ⟨ao5, n5, cp5, rfl, -⟩ := hB5.slice
          obtain ⟨v6, w6, hr6, hB6, hO6⟩ := hB5.byte 41 41 (by have := HLen.out; simp only [List.length_append, List.length_cons, List.length_nil] at this ⊢; omega)
          obtain ⟨ao6, n6, cp6, rfl, -⟩ := hB6.slice
          have HR6 : Hid ((Builtin.append_ #[41, 41] 41 #[.slice ao5 n5 cp5, .slice (some ⟨w5.heap.size, 0, none⟩) 1 1]).run Tryz.prog (w5.alloc (.cells #[.int .u8 41] 5)) = .ok (.slice ao6 n6 cp6) w6) := hr6
          have HB6 : Hid (Buf W0 (.slice ao6 n6 cp6) (xs ++ RP.rowT c true ((pl.take (k + 1)).map RP.tP)) w6 ∧ Lib.OthersKept 5 none w w6) := by
            have e : xs ++ RP.rowT c true ((pl.take (k + 1)).map RP.tP) = T2 ++ [40] ++ TQ ++ [41] := by rw [HTK.out]; simp
            rw [e]
            exact ⟨hB6, (HO4.out.trans hO5).trans hO6⟩
          clear hr6 hB6 hO6 hB5 hO5 HO4 hC
          go_wp2_with (at_builtin; refine Lib.wpList_append_run _ rfl _ _ _ _ rfl _ _ rfl rfl _ _ HR6.out ?_)
          clear HR6
          go_wp2_with fail
          go_roundw
          case rel => exact ⟨k + 1, by omega, by go_num, HB6.out⟩
          case measure => simp [intOf]; omega
        · have ew : RP.wrapT c q q.text = q.text := if_neg hw
          rw [ew] at HTK HLen
          rw [show decide (q.code = 5 ∨ (q.code = 4 ∧ c ≠ 5)) = false by simpa using hw] at hW
          have hC := HC.out.1 W0 _ _ _ wc HP.out hB3 HC.out.2.2 HC.out.2.1 (by have := HLen.out; simp only [List.length_append] at this; omega)
          have HO3 : Hid (Lib.OthersKept 5 none w wc) := hO3
          clear hB3 hO3
          generalize q.text = TQ at hC HTK HLen
          go_wp2_with fail
          refine hW.mono ?_
          rintro e w' ⟨rfl, hw'⟩
          obtain rfl := hw'.symm
          clear hW
          go_wp2_with fail
          refine hC.mono ?_
          rintro e w5 ⟨v5, rfl, hB5, hO5⟩
          obtain ⟨ao5, n5, cp5, rfl, -⟩ := hB5.slice
          have HB6 : Hid (Buf W0 (.slice ao5 n5 cp5) (xs ++ RP.rowT c true ((pl.take (k + 1)).map RP.tP)) w5 ∧ Lib.OthersKept 5 none w w5) := by
            rw [HTK.out]
            exact ⟨hB5, HO3.out.trans hO5⟩
          clear hB5 hO5 HO3 hC
          go_wp2_with fail
          go_roundw
          case rel => exact ⟨k + 1, by omega, by go_num, HB6.out⟩
          case measure => simp [intOf]; omega
    · have hk' : k = n := by omega
      have HB2 : Hid (Buf W0 (.slice bo1 bn1 bc1) (xs ++ RP.rowT c true (pl.map RP.tP)) wr ∧ Lib.OthersKept 5 none w wr) := by
        have e : pl.take k = pl := by rw [hk', HN.out, List.take_length]
        rw [e] at hB
        exact ⟨hB, hO⟩
      clear hB hO
      go_wp2_with fail
      go_ret
      exact ⟨_, rfl, HB2.out⟩

end Go.Proofs.YtjbmdnkpfkelmaaGreatDoor.Q
