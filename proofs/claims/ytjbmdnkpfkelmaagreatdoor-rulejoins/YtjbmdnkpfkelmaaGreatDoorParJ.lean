/- Patterns in memory; together, unit. -/
import Derived.Test.YtjbmdnkpfkelmaaGreatDoorParI
import Derived.Test.YtjbmdnkpfkelmaaGreatDoorPlain
namespace Go.Proofs.YtjbmdnkpfkelmaaGreatDoor.Q
open Go.RowKit Go.Shelf

/-- These pointers lead to this pattern (one), or to these patterns. -/
def PAt (ok : Nat → Prop) (w : World) : List Value → RP.Pt → Prop
  | vs, .one k => ∃ b kv, vs = [.pointer (some ⟨b, 0, none⟩)] ∧ ok b ∧ w.heap[b]? = some (.cells #[.int .i64 1, kv, .slice none 0 0, .int .i64 0, .int .i64 0] 94) ∧ KAt ok w kv k
  | vs, .any => ∃ b, vs = [.pointer (some ⟨b, 0, none⟩)] ∧ ok b ∧ w.heap[b]? = some (.cells #[.int .i64 2, .pointer none, .slice none 0 0, .int .i64 0, .int .i64 0] 94)
  | vs, .edge => ∃ b, vs = [.pointer (some ⟨b, 0, none⟩)] ∧ ok b ∧ w.heap[b]? = some (.cells #[.int .i64 3, .pointer none, .slice none 0 0, .int .i64 0, .int .i64 0] 94)
  | vs, .cat ps => ∃ b sv ws, vs = [.pointer (some ⟨b, 0, none⟩)] ∧ ok b ∧ w.heap[b]? = some (.cells #[.int .i64 4, .pointer none, sv, .int .i64 0, .int .i64 0] 94) ∧ Row ok w 46 1 sv ws.length ws ∧ PAt ok w ws ps
  | vs, .alt ps => ∃ b sv ws, vs = [.pointer (some ⟨b, 0, none⟩)] ∧ ok b ∧ w.heap[b]? = some (.cells #[.int .i64 5, .pointer none, sv, .int .i64 0, .int .i64 0] 94) ∧ Row ok w 46 1 sv ws.length ws ∧ PAt ok w ws ps
  | vs, .many p lo hi => ∃ b sv ws, vs = [.pointer (some ⟨b, 0, none⟩)] ∧ ok b ∧ w.heap[b]? = some (.cells #[.int .i64 6, .pointer none, sv, .int .i64 lo, .int .i64 hi] 94) ∧ Row ok w 46 1 sv 1 ws ∧ PAt ok w ws p
  | vs, .nil => vs = []
  | vs, .cons p ps => ∃ v us, vs = v :: us ∧ PAt ok w [v] p ∧ PAt ok w us ps

theorem PAt.keep {ok : Nat → Prop} {w w' : World} (hk : Keeps ok w w') : ∀ {p : RP.Pt} {vs : List Value}, PAt ok w vs p → PAt ok w' vs p := by
  intro p
  induction p with
  | one k =>
    rintro vs ⟨b, kv, rfl, h1, h2, h3⟩
    exact ⟨b, kv, rfl, h1, (hk b h1 (lt_of_block h2)).trans h2, h3.keep hk⟩
  | any =>
    rintro vs ⟨b, rfl, h1, h2⟩
    exact ⟨b, rfl, h1, (hk b h1 (lt_of_block h2)).trans h2⟩
  | edge =>
    rintro vs ⟨b, rfl, h1, h2⟩
    exact ⟨b, rfl, h1, (hk b h1 (lt_of_block h2)).trans h2⟩
  | cat ps ih =>
    rintro vs ⟨b, sv, ws, rfl, h1, h2, h3, h4⟩
    exact ⟨b, sv, ws, rfl, h1, (hk b h1 (lt_of_block h2)).trans h2, h3.keep hk, ih h4⟩
  | alt ps ih =>
    rintro vs ⟨b, sv, ws, rfl, h1, h2, h3, h4⟩
    exact ⟨b, sv, ws, rfl, h1, (hk b h1 (lt_of_block h2)).trans h2, h3.keep hk, ih h4⟩
  | many p lo hi ih =>
    rintro vs ⟨b, sv, ws, rfl, h1, h2, h3, h4⟩
    exact ⟨b, sv, ws, rfl, h1, (hk b h1 (lt_of_block h2)).trans h2, h3.keep hk, ih h4⟩
  | nil => exact fun h => h
  | cons p ps ih1 ih2 =>
    rintro vs ⟨v, us, rfl, h1, h2⟩
    exact ⟨v, us, rfl, ih1 h1, ih2 h2⟩

theorem PAt.mono {ok ok' : Nat → Prop} {w : World} (hk : ∀ b, b < w.heap.size → ok b → ok' b) : ∀ {p : RP.Pt} {vs : List Value}, PAt ok w vs p → PAt ok' w vs p := by
  intro p
  induction p with
  | one k =>
    rintro vs ⟨b, kv, rfl, h1, h2, h3⟩
    exact ⟨b, kv, rfl, hk b (lt_of_block h2) h1, h2, h3.mono hk⟩
  | any =>
    rintro vs ⟨b, rfl, h1, h2⟩
    exact ⟨b, rfl, hk b (lt_of_block h2) h1, h2⟩
  | edge =>
    rintro vs ⟨b, rfl, h1, h2⟩
    exact ⟨b, rfl, hk b (lt_of_block h2) h1, h2⟩
  | cat ps ih =>
    rintro vs ⟨b, sv, ws, rfl, h1, h2, h3, h4⟩
    exact ⟨b, sv, ws, rfl, hk b (lt_of_block h2) h1, h2, h3.mono hk, ih h4⟩
  | alt ps ih =>
    rintro vs ⟨b, sv, ws, rfl, h1, h2, h3, h4⟩
    exact ⟨b, sv, ws, rfl, hk b (lt_of_block h2) h1, h2, h3.mono hk, ih h4⟩
  | many p lo hi ih =>
    rintro vs ⟨b, sv, ws, rfl, h1, h2, h3, h4⟩
    exact ⟨b, sv, ws, rfl, hk b (lt_of_block h2) h1, h2, h3.mono hk, ih h4⟩
  | nil => exact fun h => h
  | cons p ps ih1 ih2 =>
    rintro vs ⟨v, us, rfl, h1, h2⟩
    exact ⟨v, us, rfl, ih1 h1, ih2 h2⟩

/-- These pointers lead each to its pattern. -/
def PsAt (ok : Nat → Prop) (w : World) (vs : List Value) (ps : List RP.Pt) : Prop := PAt ok w vs (RP.listOf ps)

theorem PsAt.snoc {ok : Nat → Prop} {w : World} {v : Value} {p : RP.Pt} : ∀ {ps : List RP.Pt} {vs : List Value}, PsAt ok w vs ps → PAt ok w [v] p → PsAt ok w (vs ++ [v]) (ps ++ [p])
  | [], vs, h, hv => by
    obtain rfl : vs = [] := h
    exact ⟨v, [], rfl, hv, rfl⟩
  | p :: ps, vs, ⟨u, us, hu, h1, h2⟩, hv => by
    subst hu
    exact ⟨u, us ++ [v], rfl, h1, PsAt.snoc (ps := ps) h2 hv⟩

theorem PsAt.length {ok : Nat → Prop} {w : World} : ∀ {ps : List RP.Pt} {vs : List Value}, PsAt ok w vs ps → vs.length = ps.length
  | [], vs, h => by obtain rfl : vs = [] := h; rfl
  | p :: ps, vs, ⟨u, us, hu, h1, h2⟩ => by
    subst hu
    simp [PsAt.length (ps := ps) h2]

set_option maxHeartbeats 1000000 in
set_option maxRecDepth 100000 in
theorem together_one (code g cap : Nat) (v : Value) (w : World) (hc : w.cell? ⟨g, 0, none⟩ = some v) :
    Calls Tryz.prog 50 #[.int .i64 code, .slice (some ⟨g, 0, none⟩) 1 cap] w fun e w' => e = .returned v ∧ w' = w := by
  go_enter Tryz.func50, Tryz.ntmps50
  go_wp2_with fail
  go_ret
  exact ⟨rfl, rfl⟩

set_option maxHeartbeats 1000000 in
set_option maxRecDepth 100000 in
theorem together_more (code n cap : Nat) (o : Option Addr) (hn : n ≠ 1) (w : World) :
    Calls Tryz.prog 50 #[.int .i64 code, .slice o n cap] w fun e w' => e = .returned (.pointer (some ⟨w.heap.size, 0, none⟩)) ∧ w' = w.alloc (.cells #[.int .i64 code, .pointer none, .slice o n cap, .int .i64 0, .int .i64 0] 94) := by
  have hne : ((n : Int) == 1) = false := by simp; omega
  have hne' : (n : Int) ≠ 1 := by omega
  go_enter Tryz.func50, Tryz.ntmps50
  go_wp2_with fail
  go_ret
  exact ⟨rfl, rfl⟩

def IsPtr (v : Value) : Prop := ∃ b, v = .pointer (some ⟨b, 0, none⟩)

theorem row_first {ok : Nat → Prop} {w : World} {e : TypeId} {sv v : Value} (h : Row ok w e 1 sv 1 [v]) : ∃ g cap, sv = .slice (some ⟨g, 0, none⟩) 1 cap ∧ w.cell? ⟨g, 0, none⟩ = some v := by
  obtain ⟨⟨_, ⟨_, h0⟩ | ⟨g, cap, cur, rfl, _, hh, _, _, hcs, ht⟩⟩, _⟩ := h
  · cases h0
  · refine ⟨g, cap, rfl, ?_⟩
    have : cur[0]? = some v := by
      have h1 : (cur.toList.take (1 * 1))[0]? = some v := by rw [ht]; rfl
      simpa using h1
    simp [World.cell?, hh, this]

theorem togetherP_more (code : Nat) (ps : List RP.Pt) (h : ps.length ≠ 1) : RP.togetherP code ps = if code = 4 then .cat (RP.listOf ps) else .alt (RP.listOf ps) := by
  match ps with
  | [] => rfl
  | [p] => exact absurd rfl h
  | p :: q :: r => rfl

theorem together_any (code : Nat) (hcode : code = 4 ∨ code = 5) (W0 w : World) (h0 : W0.heap.size ≤ w.heap.size) (sv : Value) (vs : List Value) (ps : List RP.Pt) (hr : Row (New W0) w 46 1 sv vs.length vs) (hp : PsAt (New W0) w vs ps) (hvs : ∀ v ∈ vs, IsPtr v) :
    Calls Tryz.prog 50 #[.int .i64 code, sv] w fun e w' => (∃ v, e = .returned v ∧ IsPtr v ∧ PAt (New W0) w' [v] (RP.togetherP code ps)) ∧ w.grownBy w' none := by
  have hlen := hp.length
  by_cases hn : ps.length = 1
  · obtain ⟨p, rfl⟩ := List.length_eq_one_iff.1 hn
    obtain ⟨v, us, rfl, h1, h2⟩ := hp
    obtain rfl : us = [] := h2
    obtain ⟨g, cap, rfl, hc⟩ := row_first hr
    refine (together_one code g cap v w hc).mono ?_
    rintro e w' ⟨rfl, rfl⟩
    exact ⟨⟨v, rfl, hvs v (by simp), h1⟩, rfl, rfl, rfl, Nat.le_refl _, fun _ _ _ => rfl⟩
  · obtain ⟨o, cap, rfl⟩ := own_slice hr.1
    refine (together_more code vs.length cap o (by omega) w).mono ?_
    rintro e w' ⟨rfl, rfl⟩
    refine ⟨⟨_, rfl, ⟨_, rfl⟩, ?_⟩, World.grownBy_alloc _ _ _⟩
    rw [togetherP_more _ _ hn]
    rcases hcode with rfl | rfl
    · exact ⟨w.heap.size, _, vs, rfl, h0, heap_alloc_new _ _, hr.keep (Keeps.alloc _ _ _), hp.keep (Keeps.alloc _ _ _)⟩
    · exact ⟨w.heap.size, _, vs, rfl, h0, heap_alloc_new _ _, hr.keep (Keeps.alloc _ _ _), hp.keep (Keeps.alloc _ _ _)⟩

/-- A method that reads a pattern at this depth. -/
def PatC (fn d : Nat) (P : Nat → List RP.Tok → RP.Res RP.Pt) : Prop :=
  ∀ (pb c : Nat) (ts : List RP.Tok) (w : World), RP.Fine ts → 5 < pb → KT w → PS pb ts c w →
    Calls Tryz.prog fn #[.pointer (some ⟨pb, 0, none⟩), .int .i64 d] w (Step pb c w (P c ts) fun p v w' => IsPtr v ∧ PAt (New w) w' [v] p)

set_option maxHeartbeats 2000000 in
set_option maxRecDepth 100000 in
theorem unit_any (d m : Nat) (hd : d ≤ 9) (hP : PatC 39 (d + 1) (fun c => RP.patP setOf c m)) : PatC 62 d (fun c => RP.unitP setOf c (RP.patP setOf c m)) := by
  intro pb c ts w hf h5 hK h
  dsimp only
  obtain ⟨t, r, rfl⟩ := hf.cons
  have hl := h.lt
  have hdc : ((d + 1 : Nat) : Int) = (d : Int) + 1 := by omega
  have hdd : (d : Int) ≤ 9 := by omega
  by_cases ht : t.text = [46]
  · have hA := accept_yes pb t r c ⟨#[46]⟩ (text_eq ht) w h
    have HR : Hid (RP.unitP setOf c (RP.patP setOf c m) (t :: r) = .ok (.any, r)) := by show _ = _; rw [RP.unitP, RP.hd, List.headD_cons, if_pos ht, List.tail_cons]
    clear h hK hf ht hP
    go_enter Tryz.func62, Tryz.ntmps62
    go_wp2_with fail
    refine hA.mono ?_
    rintro e w1 ⟨rfl, hp1, hg1⟩
    have HP1 : Hid (PS pb r c w1) := hp1
    have hs1 := hg1.size
    clear hA hp1
    go_wp2_with fail
    go_ret
    exact Step.ok HR.out (hg1.trans (World.grownBy_alloc _ _ _)) (HP1.out.grown (World.grownBy_alloc _ _ _)) ⟨⟨_, rfl⟩, w1.heap.size, rfl, hs1, heap_alloc_new _ _⟩
  have hA := accept_no pb t r c ⟨#[46]⟩ (text_ne ht) w h
  by_cases ht2 : t.text = [36]
  · have hB := accept_yes pb t r c ⟨#[36]⟩ (text_eq ht2) w h
    have HR : Hid (RP.unitP setOf c (RP.patP setOf c m) (t :: r) = .ok (.edge, r)) := by show _ = _; rw [RP.unitP, RP.hd, List.headD_cons, if_neg ht, if_pos ht2, List.tail_cons]
    clear h hK hf ht ht2 hP
    go_enter Tryz.func62, Tryz.ntmps62
    go_wp2_with fail
    refine hA.mono ?_
    rintro e w' ⟨rfl, hw⟩
    obtain rfl := hw.symm
    clear hA
    go_wp2_with fail
    refine hB.mono ?_
    rintro e w1 ⟨rfl, hp1, hg1⟩
    have HP1 : Hid (PS pb r c w1) := hp1
    have hs1 := hg1.size
    clear hB hp1
    go_wp2_with fail
    go_ret
    exact Step.ok HR.out (hg1.trans (World.grownBy_alloc _ _ _)) (HP1.out.grown (World.grownBy_alloc _ _ _)) ⟨⟨_, rfl⟩, w1.heap.size, rfl, hs1, heap_alloc_new _ _⟩
  have hB := accept_no pb t r c ⟨#[36]⟩ (text_ne ht2) w h
  by_cases ht3 : t.text = [40]
  · have hD := accept_yes pb t r c ⟨#[40]⟩ (text_eq ht3) w h
    have hq : RP.Fine r := hf.next (.inr (by rw [ht3]; simp))
    have hC := fun w' hk hp => hP pb c r w' hq h5 hk hp
    rw [hdc] at hC
    dsimp only at hC
    cases hr : RP.patP setOf c m r with
    | error b =>
      have HR : Hid (RP.unitP setOf c (RP.patP setOf c m) (t :: r) = .error b) := by show _ = _; rw [RP.unitP, RP.hd, List.headD_cons, if_neg ht, if_neg ht2, if_pos ht3, List.tail_cons, hr]
      rw [hr] at hC
      have HK : Hid (KT w) := hK
      clear h hK hf hq ht ht2 ht3 hr hP
      go_enter Tryz.func62, Tryz.ntmps62
      go_wp2_with fail
      refine hA.mono ?_
      rintro e w' ⟨rfl, hw⟩
      obtain rfl := hw.symm
      clear hA
      go_wp2_with fail
      refine hB.mono ?_
      rintro e w' ⟨rfl, hw⟩
      obtain rfl := hw.symm
      clear hB
      go_wp2_with fail
      refine hD.mono ?_
      rintro e w1 ⟨rfl, hp1, hg1⟩
      have hC1 := hC w1 (HK.out.grown hg1 h5) hp1
      clear hD hC hp1
      go_wp2_with fail
      refine hC1.mono ?_
      rintro e w2 ⟨hg2, b', rfl, k1, k2, k3⟩
      go_wp2_with fail
      exact ⟨rfl, Step.map HR.out hg1 hg2 ⟨b', rfl, k1, k2, k3⟩⟩
    | ok x =>
      obtain ⟨k, q⟩ := x
      have hqf := (RP.patP_fine m _ _ _ hq hr).1
      obtain ⟨t3, q3, rfl⟩ := hqf.cons
      rw [hr] at hC
      by_cases h41 : t3.text = [41]
      · have HR : Hid (RP.unitP setOf c (RP.patP setOf c m) (t :: r) = .ok (k, q3)) := by show _ = _; rw [RP.unitP, RP.hd, List.headD_cons, if_neg ht, if_neg ht2, if_pos ht3, List.tail_cons, hr]; simp only [RP.markP, if_pos h41]
        have hM := fun w' hp => mark_yes pb t3 q3 c ⟨#[41]⟩ (text_eq h41) w' hp
        have HK : Hid (KT w) := hK
        clear h hK hf hq ht ht2 ht3 hr hP hqf h41
        go_enter Tryz.func62, Tryz.ntmps62
        go_wp2_with fail
        refine hA.mono ?_
        rintro e w' ⟨rfl, hw⟩
        obtain rfl := hw.symm
        clear hA
        go_wp2_with fail
        refine hB.mono ?_
        rintro e w' ⟨rfl, hw⟩
        obtain rfl := hw.symm
        clear hB
        go_wp2_with fail
        refine hD.mono ?_
        rintro e w1 ⟨rfl, hp1, hg1⟩
        have hC1 := hC w1 (HK.out.grown hg1 h5) hp1
        have hs1 := hg1.size
        clear hD hC hp1
        go_wp2_with fail
        refine hC1.mono ?_
        rintro e w2 ⟨hg2, hp2, v, rfl, ⟨vb, rfl⟩, hv⟩
        have hM2 := hM w2 hp2
        have HV : Hid (PAt (New w1) w2 [.pointer (some ⟨vb, 0, none⟩)] k) := hv
        clear hp2 hv hC1 hM
        go_wp2_with fail
        refine hM2.mono ?_
        rintro e w3 ⟨rfl, hp3, hg3⟩
        have HP3 : Hid (PS pb q3 c w3) := hp3
        clear hp3 hM2
        go_wp2_with fail
        go_ret
        exact Step.ok HR.out ((hg1.trans hg2).trans hg3) HP3.out ⟨⟨_, rfl⟩, (HV.out.mono (New.mono hs1)).keep (Keeps.new hl hg3)⟩
      · have HR : Hid (RP.unitP setOf c (RP.patP setOf c m) (t :: r) = .error ⟨refuseE 3 t3 c, t3.at_⟩) := by show _ = _; rw [RP.unitP, RP.hd, List.headD_cons, if_neg ht, if_neg ht2, if_pos ht3, List.tail_cons, hr]; simp only [RP.markP, if_neg h41, refuse_eq]
        have hM := fun w' hp => mark_no pb t3 q3 c ⟨#[41]⟩ (text_ne h41) w' hp
        have HK : Hid (KT w) := hK
        clear h hK hf hq ht ht2 ht3 hr hP hqf h41
        go_enter Tryz.func62, Tryz.ntmps62
        go_wp2_with fail
        refine hA.mono ?_
        rintro e w' ⟨rfl, hw⟩
        obtain rfl := hw.symm
        clear hA
        go_wp2_with fail
        refine hB.mono ?_
        rintro e w' ⟨rfl, hw⟩
        obtain rfl := hw.symm
        clear hB
        go_wp2_with fail
        refine hD.mono ?_
        rintro e w1 ⟨rfl, hp1, hg1⟩
        have hC1 := hC w1 (HK.out.grown hg1 h5) hp1
        clear hD hC hp1
        go_wp2_with fail
        refine hC1.mono ?_
        rintro e w2 ⟨hg2, hp2, v, rfl, ⟨vb, rfl⟩, hv⟩
        have hM2 := hM w2 hp2
        clear hp2 hv hC1 hM
        go_wp2_with fail
        refine hM2.mono ?_
        rintro e w3 ⟨⟨b, rfl, k1, k2, k3⟩, hb3⟩
        go_wp2_with fail
        exact ⟨rfl, Step.map HR.out (hg1.trans hg2) (grown_below hb3 _) ⟨b, rfl, k1, k2, k3⟩⟩
  have hD := accept_no pb t r c ⟨#[40]⟩ (text_ne ht3) w h
  have hS := setOrName_any pb t r c (hf.2 t (by simp)) w hK h
  cases hr : RP.setOrNameP setOf c (t :: r) with
  | error b =>
    have HR : Hid (RP.unitP setOf c (RP.patP setOf c m) (t :: r) = .error b) := by show _ = _; rw [RP.unitP, RP.hd, List.headD_cons, if_neg ht, if_neg ht2, if_neg ht3, hr]
    rw [hr] at hS
    clear h hK hf ht ht2 ht3 hr hP
    go_enter Tryz.func62, Tryz.ntmps62
    go_wp2_with fail
    refine hA.mono ?_
    rintro e w' ⟨rfl, hw⟩
    obtain rfl := hw.symm
    clear hA
    go_wp2_with fail
    refine hB.mono ?_
    rintro e w' ⟨rfl, hw⟩
    obtain rfl := hw.symm
    clear hB
    go_wp2_with fail
    refine hD.mono ?_
    rintro e w' ⟨rfl, hw⟩
    obtain rfl := hw.symm
    clear hD
    go_wp2_with fail
    refine hS.mono ?_
    rintro e w2 ⟨hg2, b', rfl, k1, k2, k3⟩
    go_wp2_with fail
    exact ⟨rfl, Step.map HR.out ⟨rfl, rfl, rfl, Nat.le_refl _, fun _ _ _ => rfl⟩ hg2 ⟨b', rfl, k1, k2, k3⟩⟩
  | ok x =>
    obtain ⟨k, q⟩ := x
    have HR : Hid (RP.unitP setOf c (RP.patP setOf c m) (t :: r) = .ok (.one k, q)) := by show _ = _; rw [RP.unitP, RP.hd, List.headD_cons, if_neg ht, if_neg ht2, if_neg ht3, hr]
    rw [hr] at hS
    clear h hK hf ht ht2 ht3 hr hP
    go_enter Tryz.func62, Tryz.ntmps62
    go_wp2_with fail
    refine hA.mono ?_
    rintro e w' ⟨rfl, hw⟩
    obtain rfl := hw.symm
    clear hA
    go_wp2_with fail
    refine hB.mono ?_
    rintro e w' ⟨rfl, hw⟩
    obtain rfl := hw.symm
    clear hB
    go_wp2_with fail
    refine hD.mono ?_
    rintro e w' ⟨rfl, hw⟩
    obtain rfl := hw.symm
    clear hD
    go_wp2_with fail
    refine hS.mono ?_
    rintro e w2 ⟨hg2, hp2, v, rfl, hv⟩
    have HP2 : Hid (PS pb q c w2) := hp2
    have HV : Hid (KAt (New w) w2 v k) := hv
    have hs2 := hg2.size
    obtain ⟨vb, rfl⟩ := hv.ptr
    clear hp2 hv hS
    go_wp2_with fail
    go_ret
    exact Step.ok HR.out (hg2.trans (World.grownBy_alloc _ _ _)) (HP2.out.grown (World.grownBy_alloc _ _ _)) ⟨⟨_, rfl⟩, w2.heap.size, _, rfl, hs2, heap_alloc_new _ _, HV.out.keep (Keeps.alloc _ _ _)⟩

end Go.Proofs.YtjbmdnkpfkelmaaGreatDoor.Q
