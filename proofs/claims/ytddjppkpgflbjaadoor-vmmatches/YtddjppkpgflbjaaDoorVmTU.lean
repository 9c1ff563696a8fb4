/- The closure of matching, and each by it. -/
import Derived.Test.YtddjppkpgflbjaaDoorVmR
namespace Go.Proofs.YtddjppkpgflbjaaDoor
open Go.RowKit Go.Shelf

/-- here and next. -/
structure Tw (B mh hh mx hx n : Nat) (w : World) (vh vx : Value) (h x : List Nat) : Prop where
  here : MetAt B w mh hh vh n h
  next : MetAt B w mx hx vx n x
  ne : mh ≠ mx ∧ hh ≠ hx
  own : ∀ g, vh.ownBlock = some g → vx.ownBlock ≠ some g

section
variable {B mh hh mx hx n : Nat} {w w' : World} {vh vx : Value} {h x : List Nat}

theorem Tw.below (T : Tw B mh hh mx hx n w vh vx h x) (hb : Below w.heap.size w w') : Tw B mh hh mx hx n w' vh vx h x :=
  ⟨T.here.but (But.of_below hb (fun _ => False)) id id (fun _ _ => id), T.next.but (But.of_below hb (fun _ => False)) id id (fun _ _ => id), T.ne, T.own⟩

theorem Tw.hereMet {h' : List Nat} {vh' : Value} (T : Tw B mh hh mx hx n w vh vx h x) (hM : MetAt B w' mh hh vh' n h') (hb : But (Foot mh hh vh) w w') (hn : Later w vh vh') : Tw B mh hh mx hx n w' vh' vx h' x := by
  have ap : ∀ {k : Nat}, Foot mx hx vx k → ¬ Foot mh hh vh k := fun hk => feet_apart T.here T.next T.ne.1 T.ne.2 T.own hk
  refine ⟨hM, T.next.but hb (ap (.inl rfl)) (ap (.inr (.inl rfl))) (fun g hg => ap (.inr (.inr hg))), T.ne, fun g hg hx => ?_⟩
  rcases hn g hg with h1 | h1
  · exact T.own g h1 hx
  · obtain ⟨_, cur, hh⟩ := own_block T.next.order hx
    have := lt_of_block hh
    omega

theorem foot_low {m hb : Nat} {v : Value} {o : List Nat} (hM : MetAt B w m hb v n o) {k : Nat} (hk : Foot m hb v k) : B ≤ k := by
  rcases hk with rfl | rfl | hg
  · exact hM.low.1
  · exact hM.low.2
  · exact (own_block hM.order hg).1

/-- What was met since w. -/
def Seen (B mh hh mx hx n : Nat) (w : World) (vh vx : Value) (x h' : List Nat) (w' : World) : Prop := ∃ vh', Tw B mh hh mx hx n w' vh' vx h' x ∧ But (Foot mh hh vh) w w' ∧ Later w vh vh'

theorem Seen.refl (T : Tw B mh hh mx hx n w vh vx h x) : Seen B mh hh mx hx n w vh vx x h w := ⟨vh, T, But.refl _ _, Later.refl _ _⟩

theorem Seen.alloc {h' : List Nat} (S : Seen B mh hh mx hx n w vh vx x h' w') (o : Obj) : Seen B mh hh mx hx n w vh vx x h' (w'.alloc o) := by
  obtain ⟨v, T, hb, hl⟩ := S
  exact ⟨v, T.below ((Below.refl _ w').alloc (Nat.le_refl _) o), hb.alloc o, hl⟩

theorem Seen.meet {h' : List Nat} {i : Nat} (S : Seen B mh hh mx hx n w vh vx x h' w') (hn : n ≤ 100000) (hm : VM.Met n h') (hi : i < n) :
    Calls Tryd.prog 44 #[.pointer (some ⟨mh, 0, none⟩), .int .i64 i] w' fun e w2 => e = .returned (.tuple #[]) ∧ Seen B mh hh mx hx n w vh vx x (VM.meet h' i) w2 := by
  obtain ⟨v, T, hb, hl⟩ := S
  refine (meet_any B mh hh v n i h' w' T.here hi hn hm).mono ?_
  rintro e w2 ⟨rfl, v2, hM, hb2, hl2⟩
  refine ⟨rfl, v2, T.hereMet hM hb2 hl2, hb.trans hb2 (fun j hj => ?_), hl.trans hl2 hb.size⟩
  rcases hj with rfl | rfl | hj
  · exact .inl (.inl rfl)
  · exact .inl (.inr (.inl rfl))
  · exact (hl j hj).elim (fun h => .inl (.inr (.inr h))) .inr

theorem Seen.trans {w1 w2 : World} {vh1 : Value} {h1 h2 : List Nat} (T : Tw B mh hh mx hx n w1 vh1 vx h1 x) (hb : But (Foot mh hh vh) w w1) (hl : Later w vh vh1) (S : Seen B mh hh mx hx n w1 vh1 vx x h2 w2) : Seen B mh hh mx hx n w vh vx x h2 w2 := by
  obtain ⟨v, T2, hb2, hl2⟩ := S
  refine ⟨v, T2, hb.trans hb2 (fun j hj => ?_), hl.trans hl2 hb.size⟩
  rcases hj with rfl | rfl | hj
  · exact .inl (.inl rfl)
  · exact .inl (.inr (.inl rfl))
  · exact (hl j hj).elim (fun h => .inl (.inr (.inr h))) .inr

/-- What is no part of here stays. -/
theorem Seen.keep (T : Tw B mh hh mx hx n w vh vx h x) {h' : List Nat} (S : Seen B mh hh mx hx n w vh vx x h' w') {k : Nat} {cs : Array Value} {t : TypeId} (hk : w.heap[k]? = some (.cells cs t (0, 0))) (ht : t ≠ 85 ∧ t ≠ 4 ∧ t ≠ 3) : w'.heap[k]? = some (.cells cs t (0, 0)) := by
  obtain ⟨_, _, hb, _⟩ := S
  exact (hb.block _ (lt_of_block hk) (not_foot T.here hk ht)).trans hk

theorem Seen.below (T : Tw B mh hh mx hx n w vh vx h x) {h' : List Nat} (S : Seen B mh hh mx hx n w vh vx x h' w') : Below B w w' := by
  obtain ⟨_, _, hb, _⟩ := S
  exact hb.below (met_low T.here) (fun j hj => foot_low T.here hj)

end

/-- Numbers as integers. -/
def intsOf (A : List Nat) : List Int := A.map fun (a : Nat) => (a : Int)

/-- What leads to each instruction, in memory. -/
def LedAt (B : Nat) (w : World) (av : Value) (c : VM.Co) : Prop :=
  ∃ ob, av = .slice (some ⟨ob, 0, none⟩) c.ins.length c.ins.length ∧ ob < B ∧ ∀ t, t < c.ins.length → ∃ v A, w.cell? ⟨ob, t, none⟩ = some v ∧ PtsAt B w v (intsOf A) ∧ VM.Led c c.ins.length t A ∧ A.length ≤ 1000000

theorem LedAt.below {B : Nat} {w w' : World} {av : Value} {c : VM.Co} (h : LedAt B w av c) (hb : Below B w w') : LedAt B w' av c := by
  obtain ⟨ob, rfl, ho, h⟩ := h
  refine ⟨ob, rfl, ho, fun t ht => ?_⟩
  obtain ⟨v, A, h1, h2, h3, h4⟩ := h t ht
  exact ⟨v, A, (hb.cell (p := ⟨ob, t, none⟩) (by exact ho)).trans h1, h2.below hb _ (Nat.le_refl _), h3, h4⟩

/-- The boxes of what the closure is handed. -/
structure Boxes (w : World) (bA bc bl bh mh : Nat) (av sv iv lv : Value) : Prop where
  cA : w.heap[bA]? = some (.cells #[av] 123 (0, 0))
  cC : w.heap[bc]? = some (.cells #[sv, iv] 25 (0, 0))
  cL : w.heap[bl]? = some (.cells #[lv] 29 (0, 0))
  cH : w.heap[bh]? = some (.cells #[.pointer (some ⟨mh, 0, none⟩)] 82 (0, 0))

theorem Boxes.keep {B mh hh mx hx n : Nat} {w w' : World} {vh vx : Value} {h x h' : List Nat} {bA bc bl bh : Nat} {av sv iv lv : Value} (X : Boxes w bA bc bl bh mh av sv iv lv) (T : Tw B mh hh mx hx n w vh vx h x) (S : Seen B mh hh mx hx n w vh vx x h' w') : Boxes w' bA bc bl bh mh av sv iv lv :=
  ⟨S.keep T X.cA (by decide), S.keep T X.cC (by decide), S.keep T X.cL (by decide), S.keep T X.cH (by decide)⟩

theorem Boxes.cells {w : World} {bA bc bl bh mh : Nat} {av sv iv lv : Value} (X : Boxes w bA bc bl bh mh av sv iv lv) : w.cell? ⟨bA, 0, none⟩ = some av ∧ w.cell? ⟨bc, 0, none⟩ = some sv ∧ w.cell? ⟨bc, 1, none⟩ = some iv ∧ w.cell? ⟨bl, 0, none⟩ = some lv ∧ w.cell? ⟨bh, 0, none⟩ = some (.pointer (some ⟨mh, 0, none⟩)) :=
  ⟨cell_of_row _ _ 0 _ _ _ X.cA, cell_of_row _ _ 0 _ _ _ X.cC, cell_of_row _ _ 1 _ _ _ X.cC, cell_of_row _ _ 0 _ _ _ X.cL, cell_of_row _ _ 0 _ _ _ X.cH⟩

/-- Whether one leads to another one, as it is asked. -/
theorem leads_asked {c : VM.Co} {i j : Nat} {e : Bool} (h : VM.Edge c j i) : VM.Leads c e j i ↔ ((VM.at_ c j).op ≠ 4 ∨ e = true) := by
  rw [VM.leads_edge]
  exact ⟨fun h => h.2, fun h2 => ⟨h, h2⟩⟩

set_option maxHeartbeats 4000000 in
set_option maxRecDepth 100000 in
theorem back_any (B mh hh mx hx bA bc bl bh : Nat) (av sv iv lv : Value) (c : VM.Co) (l : List Int) (i : Nat) (h x : List Nat) (vh vx : Value) (w : World) (F : Fit B w sv iv lv c l) (hA : LedAt B w av c)
    (T : Tw B mh hh mx hx c.ins.length w vh vx h x) (X : Boxes w bA bc bl bh mh av sv iv lv) (hi : i < c.ins.length) (hm : VM.Met c.ins.length h) :
    Calls Tryd.prog 69 (#[.int .i64 i] ++ #[.pointer (some ⟨bA, 0, none⟩), .pointer (some ⟨bc, 0, none⟩), .pointer (some ⟨bl, 0, none⟩), .pointer (some ⟨bh, 0, none⟩)]) w fun e w' => e = .returned (.bool true) ∧
      ∃ h', Seen B mh hh mx hx c.ins.length w vh vx x h' w' ∧ VM.Met c.ins.length h' ∧ h <+: h' ∧ (∀ j, j < c.ins.length → VM.Leads c (decide (l.length = 0)) j i → j ∈ h') ∧ ∀ j ∈ h', j ∈ h ∨ VM.Leads c (decide (l.length = 0)) j i := by
  obtain ⟨ob, rfl, hob, hrows⟩ := hA
  obtain ⟨rv, A, hrv, hpts, hled, hal⟩ := hrows i hi
  obtain ⟨ro, rcp, hrvv, hrc, hrcell⟩ := hpts
  have hlenA : (intsOf A).length = A.length := by simp [intsOf]
  rw [hlenA] at hrvv hrc
  obtain ⟨pao, pcap, hlv, -, -⟩ := F.pts
  obtain ⟨ib, ioff, icap, hiv, hib, hic⟩ := F.ins
  obtain ⟨k0, k1, k2, k3, k4⟩ := X.cells
  have hlen := F.lens.1
  have HX : Hid (Boxes w bA bc bl bh mh (.slice (some ⟨ob, 0, none⟩) c.ins.length c.ins.length) sv iv lv) := X
  have HT : Hid (Tw B mh hh mx hx c.ins.length w vh vx h x) := T
  have HLED : Hid (VM.Led c c.ins.length i A) := hled
  have HRC : Hid (intsOf A ≠ [] → ∃ b off, ro = some ⟨b, off, none⟩ ∧ b < B ∧ ∀ k (h : k < (intsOf A).length), w.cell? ⟨b, off + k, none⟩ = some (.int .i64 (intsOf A)[k])) := hrcell
  have HIC : Hid (∀ i, i < c.ins.length → w.cell? ⟨ib, ioff + i * 3, none⟩ = some (.int .i64 (VM.at_ c i).op) ∧ w.cell? ⟨ib, ioff + i * 3 + 1, none⟩ = some (.int .i64 (VM.at_ c i).a) ∧ w.cell? ⟨ib, ioff + i * 3 + 2, none⟩ = some (.int .i64 (VM.at_ c i).b)) := hic
  have HM : Hid (VM.Met c.ins.length h) := hm
  have hsz := met_low T.here
  subst hrvv hiv hlv
  obtain ⟨N, hN⟩ : ∃ N, N = c.ins.length := ⟨_, rfl⟩
  obtain ⟨L, hL⟩ : ∃ L, L = l.length := ⟨_, rfl⟩
  obtain ⟨M, hM⟩ : ∃ M, M = A.length := ⟨_, rfl⟩
  have HN : Hid (N = c.ins.length) := hN
  have HLL : Hid (L = l.length) := hL
  have HMM : Hid (M = A.length) := hM
  clear F T X hled hrcell hic hm hrows hN hL hM hlenA
  rw [← HN.out] at k0 k2 hi hlen HX HT HM HLED HIC ⊢
  rw [← HLL.out] at k3 HX ⊢
  rw [← HMM.out] at hrv hrc hal
  have hiz : (i : Int) < (N : Int) := by omega
  go_enter Tryd.func69, Tryd.ntmps69
  go_wp2_with fail
  clear k0 k1 k2 k3 k4 hrv
  go_loopw [14] (fun u wr => ∃ (q : Nat) (h' : List Nat), u = .int .i64 q ∧ q ≤ M ∧ Seen B mh hh mx hx N w vh vx x h' wr ∧ VM.Met N h' ∧ h <+: h' ∧ (∀ k (_ : k < A.length), k < q → VM.Leads c (decide (L = 0)) A[k] i → A[k] ∈ h') ∧ ∀ j ∈ h', j ∈ h ∨ VM.Leads c (decide (L = 0)) j i) (fun u _ => M - (intOf u).toNat)
  case atStart => exact ⟨0, h, rfl, Nat.zero_le _, Seen.refl HT.out, HM.out, List.prefix_refl _, fun k _ hk => absurd hk (by omega), fun j hj => .inl hj⟩
  case round =>
    obtain ⟨q, h', rfl, hq, hS, hm, hpre, hall, hsnd⟩ := hrel
    have HS : Hid (Seen B mh hh mx hx N w vh vx x h' wr) := hS
    have HMe : Hid (VM.Met N h') := hm
    have HP : Hid (h <+: h') := hpre
    have HA : Hid (∀ k (_ : k < A.length), k < q → VM.Leads c (decide (L = 0)) A[k] i → A[k] ∈ h') := hall
    have HSN : Hid (∀ j ∈ h', j ∈ h ∨ VM.Leads c (decide (L = 0)) j i) := hsnd
    have HBE : Hid (Below B w wr) := hS.below HT.out
    clear hS hm hpre hall hsnd
    obtain ⟨k0, k1, k2, k3, k4⟩ := (HX.out.keep HT.out HS.out).cells
    by_cases hlt : q < M
    · have hqA : q < A.length := by have := HMM.out; omega
      obtain ⟨rb, roff, rfl, hrb, hrc2⟩ := HRC.out (fun e => by
        have : (intsOf A).length = 0 := by rw [e]; rfl
        simp [intsOf] at this
        rw [this] at hqA
        simp at hqA)
      have hcell := (HBE.out.cell (p := ⟨rb, roff + q, none⟩) (by exact hrb)).trans (hrc2 q (by simpa [intsOf] using hqA))
      obtain ⟨hjN, hjE⟩ := (HLED.out A[q]).1 (List.getElem_mem hqA)
      have eqA : (intsOf A)[q]'(by simpa [intsOf] using hqA) = (A[q] : Int) := by simp [intsOf]
      rw [eqA] at hcell
      have HLQ : Hid (∀ e, VM.Leads c e A[q] i ↔ ((VM.at_ c A[q]).op ≠ 4 ∨ e = true)) := fun e => leads_asked hjE
      obtain ⟨i0, -, -⟩ := HIC.out A[q] hjN
      have j0 := (HBE.out.cell (p := ⟨ib, ioff + A[q] * 3, none⟩) (by exact hib)).trans i0
      have HAS : Hid (∀ h2 : List Nat, h' <+: h2 → (VM.Leads c (decide (L = 0)) A[q] i → A[q] ∈ h2) → ∀ k (_ : k < A.length), k < q + 1 → VM.Leads c (decide (L = 0)) A[k] i → A[k] ∈ h2) := fun h2 hp hh2 k hk hk2 hle => by
        rcases Nat.lt_or_ge k q with h3 | h3
        · exact hp.subset (HA.out k hk h3 hle)
        · obtain rfl : k = q := by omega
          exact hh2 hle
      obtain ⟨j, hj⟩ : ∃ j, j = A[q] := ⟨_, rfl⟩
      obtain ⟨o, ho⟩ : ∃ o, o = (VM.at_ c A[q]).op := ⟨_, rfl⟩
      have HJ : Hid (j = A[q]) := hj
      have HO : Hid (o = (VM.at_ c A[q]).op) := ho
      rw [← hj] at hcell hjN j0
      rw [hj, ← ho, ← hj] at j0
      clear hrc2 hjE eqA i0 hj ho
      have hqz : (q : Int) < (M : Int) := by omega
      have hjz : (j : Int) < (N : Int) := by omega
      have C := HS.out.meet hlen HMe.out hjN
      have HC2 : Hid (∀ h2 w2, Seen B mh hh mx hx N w vh vx x h2 w2 → VM.Met N h2 → h' <+: h2 → (VM.Leads c (decide (L = 0)) A[q] i → A[q] ∈ h2) → (∀ y ∈ h2, y ∈ h' ∨ VM.Leads c (decide (L = 0)) y i) →
          ∃ q2 h3, Value.int .i64 ((q : Int) + 1) = Value.int .i64 (q2 : Nat) ∧ q2 ≤ M ∧ Seen B mh hh mx hx N w vh vx x h3 w2 ∧ VM.Met N h3 ∧ h <+: h3 ∧ (∀ k (_ : k < A.length), k < q2 → VM.Leads c (decide (L = 0)) A[k] i → A[k] ∈ h3) ∧ ∀ y ∈ h3, y ∈ h ∨ VM.Leads c (decide (L = 0)) y i) := fun h2 w2 s1 s2 s3 s4 s5 =>
        ⟨q + 1, h2, by simp, by omega, s1, s2, HP.out.trans s3, HAS.out h2 s3 s4, fun y hy => (s5 y hy).elim (fun h => HSN.out y h) .inr⟩
      by_cases h4 : o = 4
      · by_cases hL0 : L = 0
        · subst h4
          have hl0 : ((L : Int) == 0) = true := by simp [hL0]
          have hlead : VM.Leads c (decide (L = 0)) A[q] i := (HLQ.out _).2 (.inr (by simp [hL0]))
          have HLE2 : Hid (VM.Leads c (decide (L = 0)) A[q] i) := hlead
          clear hlead
          go_wp2_with fail
          refine C.mono ?_
          rintro e w2 ⟨rfl, hS2⟩
          have HS2 : Hid (Seen B mh hh mx hx N w vh vx x (VM.meet h' j) w2) := hS2
          clear C hS2
          go_wp2_with fail
          go_roundw
          case rel => exact HC2.out _ _ HS2.out (HMe.out.meet hjN) (VM.meet_prefix _ _) (fun _ => (VM.mem_meet _ _ _).2 (.inr HJ.out.symm)) (fun y hy => ((VM.mem_meet _ _ _).1 hy).imp id (fun e => by rw [e, HJ.out]; exact HLE2.out))
          case measure => simp [intOf]; omega
        · subst h4
          clear C
          have hl0 : ((L : Int) == 0) = false := by simp [hL0]
          have hno : ¬ VM.Leads c (decide (L = 0)) A[q] i := fun h => ((HLQ.out _).1 h).elim (fun h => h HO.out.symm) (fun h => by simp [hL0] at h)
          have HNO : Hid (¬ VM.Leads c (decide (L = 0)) A[q] i) := hno
          clear hno
          go_wp2_with fail
          go_roundw
          case rel => exact HC2.out _ _ HS.out HMe.out (List.prefix_refl _) (fun h => absurd h HNO.out) (fun y hy => .inl hy)
          case measure => simp [intOf]; omega
      · have hlead : VM.Leads c (decide (L = 0)) A[q] i := (HLQ.out _).2 (.inl (by rw [← HO.out]; exact h4))
        have HLE2 : Hid (VM.Leads c (decide (L = 0)) A[q] i) := hlead
        have h4' : (o == 4) = false := by simp [h4]
        have h4'' : (o != 4) = true := by simp [h4]
        clear hlead
        go_wp2_with fail
        refine C.mono ?_
        rintro e w2 ⟨rfl, hS2⟩
        have HS2 : Hid (Seen B mh hh mx hx N w vh vx x (VM.meet h' j) w2) := hS2
        clear C hS2
        go_wp2_with fail
        go_roundw
        case rel => exact HC2.out _ _ HS2.out (HMe.out.meet hjN) (VM.meet_prefix _ _) (fun _ => (VM.mem_meet _ _ _).2 (.inr HJ.out.symm)) (fun y hy => ((VM.mem_meet _ _ _).1 hy).imp id (fun e => by rw [e, HJ.out]; exact HLE2.out))
        case measure => simp [intOf]; omega
    · obtain rfl : q = M := by omega
      have hqz : ¬ ((q : Int) < (q : Int)) := by omega
      have HFI : Hid (∀ j, j < N → VM.Leads c (decide (L = 0)) j i → j ∈ h') := fun j hj hle => by
        have hjA : j ∈ A := (HLED.out j).2 ⟨hj, (VM.leads_edge.1 hle).1⟩
        obtain ⟨k, hk, rfl⟩ := List.getElem_of_mem hjA
        exact HA.out k hk (by have := HMM.out; omega) hle
      go_wp2_with fail
      go_ret
      exact ⟨rfl, h', HS.out, HMe.out, HP.out, HFI.out, HSN.out⟩

end Go.Proofs.YtddjppkpgflbjaaDoor

namespace Go.Proofs.YtddjppkpgflbjaaDoor
open Go.RowKit Go.Shelf

abbrev handed (bA bc bl bh : Nat) : Array Value := #[.pointer (some ⟨bA, 0, none⟩), .pointer (some ⟨bc, 0, none⟩), .pointer (some ⟨bl, 0, none⟩), .pointer (some ⟨bh, 0, none⟩)]

/-- What all that are met, and what leads to them, are. -/
def Spread (c : VM.Co) (e : Bool) (h h' : List Nat) : Prop := ∀ P : Nat → Prop, (∀ i ∈ h, P i) → (∀ i j, P i → VM.Leads c e j i → P j) → ∀ i ∈ h', P i

set_option maxHeartbeats 4000000 in
set_option maxRecDepth 100000 in
theorem eachBack_any (B mh hh mx hx bA bc bl bh : Nat) (av sv iv lv : Value) (c : VM.Co) (l : List Int) (h x : List Nat) (vh vx : Value) (w : World) (F : Fit B w sv iv lv c l) (hA : LedAt B w av c)
    (T : Tw B mh hh mx hx c.ins.length w vh vx h x) (X : Boxes w bA bc bl bh mh av sv iv lv) (hm : VM.Met c.ins.length h) :
    Calls Tryd.prog 45 #[.pointer (some ⟨mh, 0, none⟩), .func (.func 69) #[] (handed bA bc bl bh)] w fun e w' => (∃ r : Int, e = .returned (.int .i64 r)) ∧
      ∃ h', Seen B mh hh mx hx c.ins.length w vh vx x h' w' ∧ VM.Met c.ins.length h' ∧ h <+: h' ∧ (∀ i ∈ h', ∀ j, j < c.ins.length → VM.Leads c (decide (l.length = 0)) j i → j ∈ h') ∧ Spread c (decide (l.length = 0)) h h' := by
  have eg : ∀ args w, (callFunc 69 args).run Tryd.prog w = .ok (.enter 69 args) w := enters_of Tryd.func69 (by kernel_rfl) rfl
  have hlen := F.lens.1
  obtain ⟨E, hE⟩ : ∃ E, E = decide (l.length = 0) := ⟨_, rfl⟩
  have HE : Hid (E = decide (l.length = 0)) := hE
  rw [← hE]
  clear hE
  obtain ⟨N, hN⟩ : ∃ N, N = c.ins.length := ⟨_, rfl⟩
  have HN : Hid (N = c.ins.length) := hN
  have HF : Hid (Fit B w sv iv lv c l) := F
  have HLA : Hid (LedAt B w av c) := hA
  have HT : Hid (Tw B mh hh mx hx c.ins.length w vh vx h x) := T
  have HX : Hid (Boxes w bA bc bl bh mh av sv iv lv) := X
  have HM : Hid (VM.Met c.ins.length h) := hm
  rw [← hN] at hlen
  clear F hA T X hm hN
  go_enter Tryd.func45, Tryd.ntmps45
  go_wp2_with fail
  go_loopw [5] (fun u wr => ∃ (k : Nat) (h' : List Nat), u = .int .i64 k ∧ k ≤ h'.length ∧ Seen B mh hh mx hx c.ins.length w vh vx x h' wr ∧ VM.Met c.ins.length h' ∧ h <+: h' ∧ (∀ q i, q < k → h'[q]? = some i → ∀ j, j < c.ins.length → VM.Leads c E j i → j ∈ h') ∧ Spread c E h h') (fun u _ => N + 1 - (intOf u).toNat)
  case atStart => exact ⟨0, h, rfl, Nat.zero_le _, Seen.refl HT.out, HM.out, List.prefix_refl _, fun q i hq => absurd hq (by omega), fun P h1 _ => h1⟩
  case round =>
    obtain ⟨k, h', rfl, hk, hS, hm, hpre, hall, hsp⟩ := hrel
    have hlen' := hm.length
    rw [← HN.out] at hlen'
    have HS : Hid (Seen B mh hh mx hx c.ins.length w vh vx x h' wr) := hS
    have HMe : Hid (VM.Met c.ins.length h') := hm
    have HP : Hid (h <+: h') := hpre
    have HA : Hid (∀ q i, q < k → h'[q]? = some i → ∀ j, j < c.ins.length → VM.Leads c E j i → j ∈ h') := hall
    have HSP : Hid (Spread c E h h') := hsp
    obtain ⟨v1, T1, hb1, hl1⟩ := hS
    have HB1 : Hid (But (Foot mh hh vh) w wr ∧ Later w vh v1) := ⟨hb1, hl1⟩
    have hbel := HS.out.below HT.out
    obtain ⟨ao, cp, hv, c0, hcs⟩ := T1.here.cells
    by_cases hlt : k < h'.length
    · obtain ⟨g, rfl, hcell⟩ := hcs k hlt
      have hi : h'[k] < c.ins.length := hm.2 _ (List.getElem_mem hlt)
      have C := back_any B mh hh mx hx bA bc bl bh av sv iv lv c l h'[k] h' x v1 vx wr (HF.out.below hbel) (HLA.out.below hbel) T1 (HX.out.keep HT.out HS.out) hi hm
      rw [← HE.out] at C
      have HT1 : Hid (Tw B mh hh mx hx c.ins.length wr v1 vx h' x) := T1
      have HG : Hid (h'[k]? = some h'[k]) := List.getElem?_eq_getElem hlt
      clear T1 hb1 hl1 hm hpre hall hsp hbel hcs hi
      generalize h'[k] = i at C hcell HG
      obtain ⟨H, hH⟩ : ∃ H, H = h'.length := ⟨_, rfl⟩
      have HHH : Hid (H = h'.length) := hH
      rw [← hH] at c0 hlen' hlt hk
      clear hH hv
      have hkz : (k : Int) < (H : Int) := by omega
      go_wp2_with fail
      refine C.mono ?_
      rintro e w2 ⟨rfl, h2, hS2, hm2, hp2, hc2, hs2⟩
      have HR : Hid (∃ (k2 : Nat) (h3 : List Nat), Value.int .i64 ((k : Int) + 1) = .int .i64 (k2 : Nat) ∧ k2 ≤ h3.length ∧ Seen B mh hh mx hx c.ins.length w vh vx x h3 w2 ∧ VM.Met c.ins.length h3 ∧ h <+: h3 ∧ (∀ q i, q < k2 → h3[q]? = some i → ∀ j, j < c.ins.length → VM.Leads c E j i → j ∈ h3) ∧ Spread c E h h3) := by
        refine ⟨k + 1, h2, by simp, by have := hp2.length_le; have := HHH.out; omega, Seen.trans HT1.out HB1.out.1 HB1.out.2 hS2, hm2, HP.out.trans hp2, fun q y hq hy j hj hle => ?_, fun P h3 h4 y hy => ?_⟩
        · rcases Nat.lt_or_ge q k with h5 | h5
          · have hq' : q < h'.length := by have := HHH.out; omega
            have : h'[q]? = some y := by
              rw [← hy, List.getElem?_eq_getElem hq', (List.prefix_iff_getElem?.1 hp2) q hq']
            exact hp2.subset (HA.out q y h5 this j hj hle)
          · obtain rfl : q = k := by omega
            have hq' : q < h'.length := by have := HHH.out; omega
            have e1 := (List.prefix_iff_getElem?.1 hp2) q hq'
            have e2 := HG.out
            rw [List.getElem?_eq_getElem hq'] at e2
            rw [hy] at e1
            have : y = i := by rw [Option.some.inj e1, Option.some.inj e2]
            subst this
            exact hc2 j hj hle
        · rcases hs2 y hy with h5 | h5
          · exact HSP.out P h3 h4 y h5
          · exact h4 i y (HSP.out P h3 h4 i (List.mem_of_getElem? HG.out)) h5
      clear C c0 hcell hS2 hm2 hp2 hc2 hs2
      go_wp2_with fail
      go_roundw
      case rel => exact HR.out
      case measure => simp [intOf]; omega
    · obtain rfl : k = h'.length := by omega
      clear T1 hb1 hl1 hm hpre hall hsp hbel hcs hv
      obtain ⟨H, hH⟩ : ∃ H, H = h'.length := ⟨_, rfl⟩
      have HHH : Hid (H = h'.length) := hH
      rw [← hH] at c0 hlen' hlt hk ⊢
      clear hH
      have hkz : ¬ ((H : Int) < (H : Int)) := by omega
      go_wp2_with fail
      go_ret
      refine ⟨⟨_, rfl⟩, h', HS.out, HMe.out, HP.out, fun i hi j hj hle => ?_, HSP.out⟩
      obtain ⟨q, hq, rfl⟩ := List.getElem_of_mem hi
      exact HA.out q _ hq (List.getElem?_eq_getElem hq) j hj hle

end Go.Proofs.YtddjppkpgflbjaaDoor
