/- The contract of matching. -/
import Derived.Test.YtddjppkpgflbjaaDoorVmW
namespace Go.Proofs.YtddjppkpgflbjaaDoor
open Go.RowKit Go.Shelf
attribute [local go_sem ↓] Go.wp_at_zero Go.wp_at_succ

theorem info4' : (Tryd.prog.info? 4).map (fun i => (i.zero, i.size, i.bytes)) = some (some (.bool false), 1, 1) := by kernel_rfl

theorem ground_first {w w2 W : World} {ob bh mh hh mx hx : Nat} {sv iv lv : Value} {c : VM.Co} {l : List Int} {V : Nat → Value} {A : Nat → List Nat} {N : Nat} (hN : N = c.ins.length) (F : Fit w.heap.size w sv iv lv c l) (cs : Array Value)
    (G : Grid ((w.alloc (.cells #[sv, iv] 25)).alloc (.cells cs 4)).heap.size w2 ob N V A) (hL : ∀ t, t < N → VM.Led c N t (A t)) (hA : ∀ t, t < N → (A t).length ≤ N + N)
    (hb : Below ((w.alloc (.cells #[sv, iv] 25)).alloc (.cells cs 4)).heap.size ((w.alloc (.cells #[sv, iv] 25)).alloc (.cells cs 4)) w2)
    (M : Made (w2.alloc (.cells #[.slice (some ⟨ob, 0, none⟩) N N] 123)) N W bh mh hh mx hx) :
    Ground w (w2.heap.size + 1) (w.heap.size + 1) w2.heap.size w.heap.size ob sv iv lv c l W ∧ W.heap[w.heap.size + 1]? = some (.cells cs 4 (0, 0)) ∧ Tw (w2.heap.size + 1) mh hh mx hx N W (.slice none 0 0) (.slice none 0 0) [] [] ∧ W.heap[bh]? = some (.cells #[.pointer (some ⟨mh, 0, none⟩)] 82 (0, 0)) ∧ w2.heap.size + 1 ≤ bh := by
  have hs4 : (w2.alloc (.cells #[.slice (some ⟨ob, 0, none⟩) N N] 123)).heap.size = w2.heap.size + 1 := by simp
  have T := M.tw
  have hl := M.low.1
  rw [hs4] at T hl
  subst hN
  obtain ⟨h1, h2⟩ := ground_start F cs G hL hA hb M
  exact ⟨h1, h2, T, M.cH, hl⟩

/-- A round of matching, from the place p on. -/
structure Round (w : World) (B outb bA bc ob bh : Nat) (sv iv lv : Value) (c : VM.Co) (l : List Int) (N p mh hh mx hx : Nat) (vh vx : Value) (x : List Nat) (W : World) : Prop where
  ground : Ground w B outb bA bc ob sv iv lv c l W
  two : Tw B mh hh mx hx N W vh vx [] x
  met : VM.Met N x
  cH : W.heap[bh]? = some (.cells #[.pointer (some ⟨mh, 0, none⟩)] 82 (0, 0))
  bh_ : B ≤ bh
  out : W.heap[outb]? = some (.cells (bits (l.length + 1) (known c l p)) 4 (0, 0))
  acc : p ≤ l.length → ∀ k, k ∈ x ↔ k < N ∧ VM.Acc c (l.drop p) k

theorem first_yes {F : Nat → Bool} {h : List Nat} {i : Nat} (hf : ∀ j, j ∈ h ↔ j < i ∧ F j = true) (hi : F i = true) : ∀ j, j ∈ VM.meet h i ↔ j < i + 1 ∧ F j = true := by
  intro j
  rw [VM.mem_meet, hf j]
  constructor
  · rintro (⟨h1, h2⟩ | rfl)
    · exact ⟨by omega, h2⟩
    · exact ⟨by omega, hi⟩
  · rintro ⟨h1, h2⟩
    rcases Nat.lt_or_ge j i with h3 | h3
    · exact .inl ⟨h3, h2⟩
    · exact .inr (by omega)

theorem first_no {F : Nat → Bool} {h : List Nat} {i : Nat} (hf : ∀ j, j ∈ h ↔ j < i ∧ F j = true) (hi : F i = false) : ∀ j, j ∈ h ↔ j < i + 1 ∧ F j = true := by
  intro j
  rw [hf j]
  constructor
  · rintro ⟨h1, h2⟩
    exact ⟨by omega, h2⟩
  · rintro ⟨h1, h2⟩
    rcases Nat.lt_or_ge j i with h3 | h3
    · exact ⟨h3, h2⟩
    · obtain rfl : j = i := by omega
      rw [hi] at h2
      cases h2

theorem eachBack_n (B mh hh mx hx bA bc bl bh : Nat) (av sv iv lv : Value) (c : VM.Co) (l : List Int) (h x : List Nat) (vh vx : Value) (w : World) (N : Nat) (hN : N = c.ins.length) (F : Fit B w sv iv lv c l) (hA : LedAt B w av c)
    (T : Tw B mh hh mx hx N w vh vx h x) (X : Boxes w bA bc bl bh mh av sv iv lv) (hm : VM.Met N h) :
    Calls Tryd.prog 45 #[.pointer (some ⟨mh, 0, none⟩), .func (.func 69) #[] (handed bA bc bl bh)] w fun e w' => (∃ r : Int, e = .returned (.int .i64 r)) ∧
      ∃ h', Seen B mh hh mx hx N w vh vx x h' w' ∧ VM.Met N h' ∧ h <+: h' ∧ (∀ i ∈ h', ∀ j, j < N → VM.Leads c (decide (l.length = 0)) j i → j ∈ h') ∧ Spread c (decide (l.length = 0)) h h' := by
  subst hN
  exact eachBack_any B mh hh mx hx bA bc bl bh av sv iv lv c l h x vh vx w F hA T X hm

/-- What the round's end reads and writes. -/
structure Turned (w : World) (B outb bA bc ob bh : Nat) (sv iv lv : Value) (c : VM.Co) (l : List Int) (N q mh hh mx hx : Nat) (vh vx : Value) (H x : List Nat) (b : Bool) (w5 : World) : Prop where
  r1 : w5.cell? ⟨bh, 0, none⟩ = some (.pointer (some ⟨mh, 0, none⟩))
  r2 : w5.cell? ⟨mh, 1, none⟩ = some (.slice (some ⟨hh, 0, none⟩) N N)
  r3 : w5.cell? ⟨hh, 0, none⟩ = some (.bool (decide (0 ∈ H)))
  r4 : ∃ u, w5.cell? ⟨outb, q, none⟩ = some u
  r5 : w5.frozen? ⟨outb, q, none⟩ = false
  r6 : (w5.setCell ⟨outb, q, none⟩ (.bool b)).cell? ⟨bh, 0, none⟩ = some (.pointer (some ⟨mh, 0, none⟩))
  r7 : (w5.setCell ⟨outb, q, none⟩ (.bool b)).frozen? ⟨bh, 0, none⟩ = false
  r8 : ((w5.setCell ⟨outb, q, none⟩ (.bool b)).setCell ⟨bh, 0, none⟩ (.pointer (some ⟨mx, 0, none⟩))).cell? ⟨bh, 0, none⟩ = some (.pointer (some ⟨mx, 0, none⟩))
  next : MetAt B ((w5.setCell ⟨outb, q, none⟩ (.bool b)).setCell ⟨bh, 0, none⟩ (.pointer (some ⟨mx, 0, none⟩))) mx hx vx N x
  here : MetAt B ((w5.setCell ⟨outb, q, none⟩ (.bool b)).setCell ⟨bh, 0, none⟩ (.pointer (some ⟨mx, 0, none⟩))) mh hh vh N H
  ground : Ground w B outb bA bc ob sv iv lv c l ((w5.setCell ⟨outb, q, none⟩ (.bool b)).setCell ⟨bh, 0, none⟩ (.pointer (some ⟨mx, 0, none⟩)))
  cH : ((w5.setCell ⟨outb, q, none⟩ (.bool b)).setCell ⟨bh, 0, none⟩ (.pointer (some ⟨mx, 0, none⟩))).heap[bh]? = some (.cells #[.pointer (some ⟨mx, 0, none⟩)] 82 (0, 0))
  out : ((w5.setCell ⟨outb, q, none⟩ (.bool b)).setCell ⟨bh, 0, none⟩ (.pointer (some ⟨mx, 0, none⟩))).heap[outb]? = some (.cells (bits (l.length + 1) (known c l q)) 4 (0, 0))

theorem turned {w w5 : World} {B outb bA bc ob bh : Nat} {sv iv lv : Value} {c : VM.Co} {l : List Int} {N q mh hh mx hx : Nat} {vh vx : Value} {H x : List Nat} {b : Bool} (G : Ground w B outb bA bc ob sv iv lv c l w5) (T : Tw B mh hh mx hx N w5 vh vx H x)
    (hH : w5.heap[bh]? = some (.cells #[.pointer (some ⟨mh, 0, none⟩)] 82 (0, 0))) (hbh : B ≤ bh) (ho : w5.heap[outb]? = some (.cells (bits (l.length + 1) (known c l (q + 1))) 4 (0, 0))) (hq : q ≤ l.length) (hN : 0 < N) (hb : b = (VM.run c (l.drop q) [0]).1) :
    Turned w B outb bA bc ob bh sv iv lv c l N q mh hh mx hx vh vx H x b w5 := by
  have hlt := G.low.2.2.1
  have h6 : (w5.setCell ⟨outb, q, none⟩ (.bool b)).heap[outb]? = some (.cells (bits (l.length + 1) (known c l q)) 4 (0, 0)) := by
    rw [heap_setCell_same w5 outb q _ 4 _ ho, bits_set (g := known c l q) (by rw [hb]; simp [known]) (fun j hj _ => known_step c l q j hj)]
  have h6b : (w5.setCell ⟨outb, q, none⟩ (.bool b)).heap[bh]? = some (.cells #[.pointer (some ⟨mh, 0, none⟩)] 82 (0, 0)) := (heap_setCell_other w5 ⟨outb, q, none⟩ bh _ (fun e => by have e' : bh = outb := e; omega)).trans hH
  have h7 : ((w5.setCell ⟨outb, q, none⟩ (.bool b)).setCell ⟨bh, 0, none⟩ (.pointer (some ⟨mx, 0, none⟩))).heap[bh]? = some (.cells #[.pointer (some ⟨mx, 0, none⟩)] 82 (0, 0)) := heap_setCell_same _ bh 0 _ 82 _ h6b
  have h7o : ((w5.setCell ⟨outb, q, none⟩ (.bool b)).setCell ⟨bh, 0, none⟩ (.pointer (some ⟨mx, 0, none⟩))).heap[outb]? = some (.cells (bits (l.length + 1) (known c l q)) 4 (0, 0)) := (heap_setCell_other _ ⟨bh, 0, none⟩ outb _ (fun e => by have e' : outb = bh := e; omega)).trans h6
  have hbut : But (fun k => k = outb ∨ k = bh) w5 ((w5.setCell ⟨outb, q, none⟩ (.bool b)).setCell ⟨bh, 0, none⟩ (.pointer (some ⟨mx, 0, none⟩))) := ((But.refl _ w5).set outb q _ (.inl (.inl rfl))).set bh 0 _ (.inl (.inr rfl))
  have nf : ∀ {m hb : Nat} {v : Value} {o : List Nat}, MetAt B w5 m hb v N o → ∀ k, Foot m hb v k → ¬ (k = outb ∨ k = bh) := fun hM k hk e => e.elim (fun e => by have := foot_low hM hk; omega) (fun e => not_foot hM hH (by decide) (e ▸ hk))
  refine ⟨cell_of_row _ _ 0 _ _ _ hH, cell_of_row _ _ 1 _ _ _ T.here.struct_, ?_, ⟨_, (cell_of_row _ _ q _ _ _ ho).trans (bits_get (by omega))⟩, frozen_of_row _ _ q _ _ ho, cell_of_row _ _ 0 _ _ _ h6b, frozen_of_row _ _ 0 _ _ h6b, cell_of_row _ _ 0 _ _ _ h7,
    T.next.but hbut (nf T.next _ (.inl rfl)) (nf T.next _ (.inr (.inl rfl))) (fun g hg => nf T.next _ (.inr (.inr hg))), T.here.but hbut (nf T.here _ (.inl rfl)) (nf T.here _ (.inr (.inl rfl))) (fun g hg => nf T.here _ (.inr (.inr hg))),
    G.but (hbut.mono (fun j hj => .inl (hj.elim .inl (fun e => .inr (by omega))))) ⟨_, h7o⟩, h7, h7o⟩
  rw [cell_of_row _ _ 0 _ _ _ T.here.has, flags_get N H 0 hN]

theorem Turned.close {w w5 w8 : World} {B outb bA bc ob bh : Nat} {sv iv lv : Value} {c : VM.Co} {l : List Int} {N q mh hh mx hx : Nat} {vh vx v8 : Value} {H x : List Nat} {b : Bool} (R : Turned w B outb bA bc ob bh sv iv lv c l N q mh hh mx hx vh vx H x b w5) (T : Tw B mh hh mx hx N w5 vh vx H x) (hbh : B ≤ bh)
    (hM : MetAt B w8 mx hx v8 N []) (hb : But (fun k => k = mx ∨ k = hx) ((w5.setCell ⟨outb, q, none⟩ (.bool b)).setCell ⟨bh, 0, none⟩ (.pointer (some ⟨mx, 0, none⟩))) w8) (he : v8.ownBlock = vx.ownBlock) (hm : VM.Met N H) (hacc : ∀ k, k ∈ H ↔ k < N ∧ VM.Acc c (l.drop q) k) :
    Round w B outb bA bc ob bh sv iv lv c l N q mx hx mh hh v8 vh H w8 := by
  have hlow := R.next.low
  have nf : ∀ k, Foot mh hh vh k → ¬ (k = mx ∨ k = hx) := fun k hk e => feet_apart R.next R.here (fun e => T.ne.1 e.symm) (fun e => T.ne.2 e.symm) (fun g h1 h2 => T.own g h2 h1) hk (e.elim .inl (fun e => .inr (.inl e)))
  have no : outb ≠ mx ∧ outb ≠ hx := by have := R.ground.low.2.2.1; exact ⟨by omega, by omega⟩
  have hout := (hb.block _ (lt_of_block R.out) (fun e => e.elim no.1 no.2)).trans R.out
  refine ⟨R.ground.but (hb.mono (fun j hj => .inl (.inr (hj.elim (fun e => by omega) (fun e => by omega))))) ⟨_, hout⟩, ⟨hM, R.here.but hb (nf _ (.inl rfl)) (nf _ (.inr (.inl rfl))) (fun g hg => nf _ (.inr (.inr hg))), ⟨fun e => T.ne.1 e.symm, fun e => T.ne.2 e.symm⟩, fun g h1 h2 => T.own g h2 (he.symm.trans h1)⟩, hm,
    (hb.block _ (lt_of_block R.cH) (fun e => not_foot R.next R.cH (by decide) (e.elim .inl (fun e => .inr (.inl e))))).trans R.cH, hbh, hout, fun _ => hacc⟩

set_option maxHeartbeats 16000000 in
set_option maxRecDepth 100000 in
theorem matching_any (sv iv lv : Value) (c : VM.Co) (l : List Int) (w : World) (F : Fit w.heap.size w sv iv lv c l) :
    Calls Tryd.prog 58 #[.agg #[sv, iv], lv] w fun e w' => ∃ o, e = .returned (.slice (some ⟨o, 0, none⟩) (l.length + 1) (l.length + 1)) ∧ w.heap.size ≤ o ∧ w'.heap[o]? = some (.cells (bits (l.length + 1) (fun k => (VM.run c (l.drop k) [0]).1)) 4 (0, 0)) ∧ Below w.heap.size w w' := by
  have hlen := F.lens.1
  have hlen1 := (VM.right_parts F.right).1
  have hll := F.lens.2.2.1
  have HF : Hid (Fit w.heap.size w sv iv lv c l) := F
  obtain ⟨po, pc, hlv, hpc, hpp⟩ := F.pts
  have HPP : Hid (l ≠ [] → ∃ b off, po = some ⟨b, off, none⟩ ∧ b < w.heap.size ∧ ∀ k (h : k < l.length), w.cell? ⟨b, off + k, none⟩ = some (.int .i64 l[k])) := hpp
  obtain ⟨ib, ioff, icap, hiv, hib, -⟩ := F.ins
  obtain ⟨N, hN⟩ : ∃ N, N = c.ins.length := ⟨_, rfl⟩
  obtain ⟨L, hL⟩ : ∃ L, L = l.length := ⟨_, rfl⟩
  have HN : Hid (N = c.ins.length) := hN
  have HL : Hid (L = l.length) := hL
  rw [← hN] at hiv hlen hlen1
  rw [← hL] at hlv hpc hll ⊢
  have hmk := run_make_row' (P := Tryd.prog) 75 4 (.bool false) 1 Tryd.underlying75 info4' rfl .i64 .i64 (L + 1) (by omega) (by omega) (w.alloc (.cells #[sv, iv] 25))
  rw [bits_false, show ((L + 1 : Nat) : Int) = (L : Int) + 1 by omega] at hmk
  have hb0 : Below w.heap.size w ((w.alloc (.cells #[sv, iv] 25)).alloc (.cells (bits (L + 1) (fun _ => false)) 4)) := ((Below.refl _ w).alloc (Nat.le_refl _) _).alloc (by simp) _
  have CL := leading_any iv c ((w.alloc (.cells #[sv, iv] 25)).alloc (.cells (bits (L + 1) (fun _ => false)) 4)) F.right (F.code.2.below hb0 _ hb0.size) F.lens.1
  have hc1 : ((w.alloc (.cells #[sv, iv] 25)).alloc (.cells (bits (L + 1) (fun _ => false)) 4)).cell? ⟨w.heap.size, 1, none⟩ = some iv := by
    have s1 : (w.alloc (.cells #[sv, iv] 25)).heap.size = w.heap.size + 1 := by simp
    rw [World.cell?_alloc_lt _ _ ⟨w.heap.size, 1, none⟩ (by rw [s1]; exact Nat.lt_succ_self _)]
    simp
  have s2 : ((w.alloc (.cells #[sv, iv] 25)).alloc (.cells (bits (L + 1) (fun _ => false)) 4)).heap.size = w.heap.size + 2 := by simp
  rw [← hN] at CL
  clear F hpp hN hL
  subst hiv hlv
  go_enter Tryd.func58, Tryd.ntmps58
  go_wp2_with fail
  refine CL.mono ?_
  rintro e w2 ⟨ob, V, A, rfl, hG, hLed, hAl, hb2⟩
  have hs2 := hb2.size
  rw [s2] at hs2
  have hc2 := (hb2.cell (p := ⟨w.heap.size, 1, none⟩) (by rw [s2]; show w.heap.size < _; omega)).trans hc1
  have HGR : Hid (Grid ((w.alloc (.cells #[sv, .slice (some ⟨ib, ioff, none⟩) N icap] 25)).alloc (.cells (bits (L + 1) (fun _ => false)) 4)).heap.size w2 ob N V A ∧ (∀ t, t < N → VM.Led c N t (A t)) ∧ (∀ t, t < N → (A t).length ≤ N + N) ∧ Below ((w.alloc (.cells #[sv, .slice (some ⟨ib, ioff, none⟩) N icap] 25)).alloc (.cells (bits (L + 1) (fun _ => false)) 4)).heap.size ((w.alloc (.cells #[sv, .slice (some ⟨ib, ioff, none⟩) N icap] 25)).alloc (.cells (bits (L + 1) (fun _ => false)) 4)) w2) := ⟨hG, hLed, hAl, hb2⟩
  have HT3 : Hid (There w.heap.size (.slice (some ⟨ib, ioff, none⟩) N icap) (w2.alloc (.cells #[.slice (some ⟨ob, 0, none⟩) N N] 123))) := There.alloc ⟨hc2, by omega⟩ _
  clear CL hG hLed hAl hb2 hc1 hmk hb0 hc2
  go_upto_region 3 with fail
  obtain ⟨W3, hW3⟩ : ∃ W3, W3 = w2.alloc (.cells #[.slice (some ⟨ob, 0, none⟩) N N] 123) := ⟨_, rfl⟩
  have HW3 : Hid (W3 = w2.alloc (.cells #[.slice (some ⟨ob, 0, none⟩) N N] 123)) := hW3
  have hs3 : w.heap.size < W3.heap.size := by rw [hW3]; simp; omega
  rw [← hW3] at HT3 ⊢
  clear hW3
  go_cut [7, 8] from 20 to 89 (fun p q W => ∃ bh mh hh mx hx, p = .pointer (some ⟨bh, 0, none⟩) ∧ q = .pointer (some ⟨mx, 0, none⟩) ∧ Made W3 N W bh mh hh mx hx)
  case first =>
    go_region_held3 (fun W => W.cell? ⟨w.heap.size, 1, none⟩ = some (.slice (some ⟨ib, ioff, none⟩) N icap) ∧ w.heap.size < W.heap.size)
      (repeat (first | exact HT3.out | apply There.drew | apply There.alloc | refine There.set ?_ _ (by omega)))
      (first | (go_at_call 43; refine (noneMet_any N _ (by omega)).mono ?_; rintro e w9 ⟨rfl, rfl⟩))
    all_goals go_wp2_with fail
    all_goals go_meet
    all_goals first
      | exact made_of [(.cells #[.pointer (some ⟨W3.heap.size + 2, 0, none⟩)] 82), (.cells (flags N []).toArray 4), (.cells #[.slice none 0 0, .slice (some ⟨W3.heap.size + 1, 0, none⟩) N N] 85), (.cells (flags N []).toArray 4), (.cells #[.slice none 0 0, .slice (some ⟨W3.heap.size + 3, 0, none⟩) N N] 85)] 0 2 1 4 3 rfl rfl rfl rfl rfl rfl rfl rfl (by decide)
      | exact made_of [(.cells (flags N []).toArray 4), (.cells #[.slice none 0 0, .slice (some ⟨W3.heap.size + 0, 0, none⟩) N N] 85), (.cells #[.pointer (some ⟨W3.heap.size + 1, 0, none⟩)] 82), (.cells (flags N []).toArray 4), (.cells #[.slice none 0 0, .slice (some ⟨W3.heap.size + 3, 0, none⟩) N N] 85)] 2 1 0 4 3 rfl rfl rfl rfl rfl rfl rfl rfl (by decide)
      | exact made_of [(.cells (flags N []).toArray 4), (.cells #[.slice none 0 0, .slice (some ⟨W3.heap.size + 0, 0, none⟩) N N] 85), (.cells (flags N []).toArray 4), (.cells #[.slice none 0 0, .slice (some ⟨W3.heap.size + 2, 0, none⟩) N N] 85), (.cells #[.pointer (some ⟨W3.heap.size + 1, 0, none⟩)] 82)] 4 1 0 3 2 rfl rfl rfl rfl rfl rfl rfl rfl (by decide)
  case rest =>
    obtain ⟨bh, mh, hh, mx, hx, rfl, rfl, M⟩ := hcut
    rw [HW3.out] at M
    obtain ⟨G0, O0, T0, hcH, hbh⟩ := ground_first HN.out HF.out (bits (L + 1) (fun _ => false)) HGR.out.1 HGR.out.2.1 HGR.out.2.2.1 HGR.out.2.2.2 M
    have HR0 : Hid (Round w (w2.heap.size + 1) (w.heap.size + 1) w2.heap.size w.heap.size ob bh sv (.slice (some ⟨ib, ioff, none⟩) N icap) (.slice po L pc) c l N (L + 1) mh hh mx hx (.slice none 0 0) (.slice none 0 0) [] wc) :=
      ⟨G0, T0, VM.met_nil _, hcH, hbh, by rw [O0, HL.out, bits_congr (known_start c l)], fun h => absurd h (by have := HL.out; omega)⟩
    clear M G0 O0 T0 hcH
    obtain ⟨B, hB⟩ : ∃ B, B = w2.heap.size + 1 := ⟨_, rfl⟩
    obtain ⟨bA, hbA⟩ : ∃ bA, bA = w2.heap.size := ⟨_, rfl⟩
    rw [← hB, ← hbA] at HR0
    rw [← hbA]
    rw [← hB] at hbh
    clear HGR HT3 HW3 hs2 hs3 hB hbA s2
    go_wp2_with fail
    go_loopw [8, 9] (fun u v wr => ∃ (p mh hh mx hx : Nat) (vh vx : Value) (x : List Nat), u = .pointer (some ⟨mx, 0, none⟩) ∧ v = .int .i64 ((p : Int) - 1) ∧ p ≤ L + 1 ∧ Round w B (w.heap.size + 1) bA w.heap.size ob bh sv (.slice (some ⟨ib, ioff, none⟩) N icap) (.slice po L pc) c l N p mh hh mx hx vh vx x wr) (fun _ v _ => (intOf v + 1).toNat)
    case atStart => exact ⟨L + 1, mh, hh, mx, hx, _, _, [], rfl, by simp, Nat.le_refl _, HR0.out⟩
    case round =>
      obtain ⟨p, mh, hh, mx, hx, vh, vx, x, rfl, rfl, hp, hR⟩ := hrel
      have HR : Hid (Round w B (w.heap.size + 1) bA w.heap.size ob bh sv (.slice (some ⟨ib, ioff, none⟩) N icap) (.slice po L pc) c l N p mh hh mx hx vh vx x wr) := hR
      clear hR HR0
      cases p with
      | zero =>
        have HO : Hid (wr.heap[w.heap.size + 1]? = some (.cells (bits (L + 1) (fun k => (VM.run c (l.drop k) [0]).1)) 4 (0, 0))) := by
          have := HR.out.out
          rw [bits_congr (fun k _ => known_all c l k), ← HL.out] at this
          exact this
        have HBW : Hid (Below w.heap.size w wr) := HR.out.ground.below
        clear HR
        go_wp2_with fail
        go_ret
        exact ⟨_, rfl, by omega, HO.out, HBW.out⟩
      | succ q =>
        have hqe : ((q + 1 : Nat) : Int) - 1 = (q : Int) := by omega
        rw [hqe]
        clear hqe
        have hqL : q ≤ L := by omega
        have hq3 : (q : Int) ≤ (L : Int) := by omega
        have hpl : (L : Int) ≤ (pc : Int) := by omega
        have HPD : Hid ((q = pc → PtsAt w.heap.size w (.slice po (L - q) 0) (l.drop q)) ∧ PtsAt w.heap.size w (.slice (po.map fun x => x.add q) (L - q) (pc - q)) (l.drop q)) := pts_drop HL.out hpc hqL HPP.out
        go_upto_region 7 with fail
        go_cut [10] from 30 to 88 (fun b W => ∃ lv', b = .pointer (some ⟨wr.heap.size, 0, none⟩) ∧ W = wr.alloc (.cells #[lv'] 29) ∧ PtsAt w.heap.size w lv' (l.drop q))
        case first =>
          by_cases hkp : pc = q
          · subst hkp
            go_wp2_with fail
            go_meet
            have hq := HPD.out.1 (by first | rfl | trivial)
            rw [show L - pc = 0 by omega] at hq
            exact ⟨_, rfl, rfl, hq⟩
          · go_wp2_with fail
            go_meet
            exact ⟨_, rfl, rfl, HPD.out.2⟩
        case rest =>
          obtain ⟨lv', rfl, rfl, hpt⟩ := hcut
          have hb1 : But (fun k => k = w.heap.size + 1 ∨ B ≤ k) wr (wr.alloc (.cells #[lv'] 29)) := (But.refl _ wr).alloc _
          have hw1 : Below wr.heap.size wr (wr.alloc (.cells #[lv'] 29)) := (Below.refl _ wr).alloc (Nat.le_refl _) _
          have g1 := HR.out.ground.but hb1 ⟨_, (hw1.block _ (lt_of_block HR.out.out)).trans HR.out.out⟩
          have t1 := HR.out.two.below hw1
          have x1 : Boxes (wr.alloc (.cells #[lv'] 29)) bA w.heap.size wr.heap.size bh mh (.slice (some ⟨ob, 0, none⟩) N N) sv (.slice (some ⟨ib, ioff, none⟩) N icap) lv' := by
            have := g1.cA
            rw [← HN.out] at this
            exact ⟨this, g1.cC, heap_alloc_new _ _, (hw1.block _ (lt_of_block HR.out.cH)).trans HR.out.cH⟩
          have o1 := (hw1.block _ (lt_of_block HR.out.out)).trans HR.out.out
          have f1 := g1.left (l' := l.drop q) hpt (by rw [List.length_drop]; have := HL.out; omega)
          have HS1 : Hid ((wr.alloc (.cells #[lv'] 29)).heap.size = wr.heap.size + 1) := by show _ = _; simp
          obtain ⟨W1, hW1⟩ : ∃ W1, W1 = wr.alloc (.cells #[lv'] 29) := ⟨_, rfl⟩
          rw [← hW1] at g1 t1 x1 o1 f1 hb1 ⊢
          have HG1 : Hid (Ground w B (w.heap.size + 1) bA w.heap.size ob sv (.slice (some ⟨ib, ioff, none⟩) N icap) (.slice po L pc) c l W1) := g1
          have HT1 : Hid (Tw B mh hh mx hx N W1 vh vx [] x) := t1
          have HX1 : Hid (Boxes W1 bA w.heap.size wr.heap.size bh mh (.slice (some ⟨ob, 0, none⟩) N N) sv (.slice (some ⟨ib, ioff, none⟩) N icap) lv') := x1
          have HO1 : Hid (W1.heap[w.heap.size + 1]? = some (.cells (bits (l.length + 1) (known c l (q + 1))) 4 (0, 0))) := o1
          have HF1 : Hid (Fit B W1 sv (.slice (some ⟨ib, ioff, none⟩) N icap) lv' c (l.drop q)) := f1
          have HB1 : Hid (But (fun k => k = w.heap.size + 1 ∨ B ≤ k) wr W1) := hb1
          obtain ⟨z0, z1, z2, z3, z4⟩ := x1.cells
          clear g1 t1 x1 o1 f1 hb1 hw1 hW1 hpt z0 z1 z3 z4
          obtain ⟨WR, rfl⟩ : ∃ WR, WR = wr := ⟨_, rfl⟩
          go_wp2_with fail
          go_loopw [40] (fun u wi => ∃ (i : Nat) (h' : List Nat), u = .int .i64 i ∧ i ≤ N ∧ Seen B mh hh mx hx N W1 vh vx x h' wi ∧ VM.Met N h' ∧ ∀ j, j ∈ h' ↔ j < i ∧ VM.First c (l.drop q) x j = true) (fun u _ => N - (intOf u).toNat)
          case atStart => exact ⟨0, [], rfl, Nat.zero_le _, Seen.refl HT1.out, VM.met_nil _, fun j => by simp⟩
          case round =>
            obtain ⟨i, h', rfl, hi, hS, hm, hfst⟩ := hrel
            have HS : Hid (Seen B mh hh mx hx N W1 vh vx x h' wr) := hS
            have HMe : Hid (VM.Met N h') := hm
            have HFS : Hid (∀ j, j ∈ h' ↔ j < i ∧ VM.First c (l.drop q) x j = true) := hfst
            clear hS hm hfst
            by_cases hlt : i < N
            · have hic : i < c.ins.length := by have := HN.out; omega
              obtain ⟨ib', ioff', icap', hiv', hib', hics⟩ := HF1.out.ins
              simp only [Value.slice.injEq, Option.some.injEq, Addr.mk.injEq] at hiv'
              obtain ⟨⟨rfl, rfl, -⟩, -, rfl⟩ := hiv'
              obtain ⟨i0, i1, i2⟩ := hics i hic
              have hbel := HS.out.below HT1.out
              have j0 := (hbel.cell (p := ⟨ib, ioff + i * 3, none⟩) (by exact hib')).trans i0
              have j1 := (hbel.cell (p := ⟨ib, ioff + i * 3 + 1, none⟩) (by exact hib')).trans i1
              have j2 := (hbel.cell (p := ⟨ib, ioff + i * 3 + 2, none⟩) (by exact hib')).trans i2
              have S2 := HS.out.alloc (.cells #[.int .i64 (VM.at_ c i).op, .int .i64 (VM.at_ c i).a, .int .i64 (VM.at_ c i).b] 50)
              have hb2 := S2.below HT1.out
              obtain ⟨z0, z1, z2', z3, z4⟩ := (HX1.out.keep HT1.out S2).cells
              have CM := S2.meet hlen HMe.out hlt
              have HNX : Hid ((VM.at_ c i).op = 1 → i + 1 < N) := fun h => by have := VM.right_next HF1.out.right hic (.inl h); have := HN.out; omega
              have HTK : Hid ((VM.at_ c i).op = 1 → Calls Tryd.prog 47 #[.agg #[sv, .slice (some ⟨ib, ioff, none⟩) N icap], .agg #[.int .i64 (VM.at_ c i).op, .int .i64 (VM.at_ c i).a, .int .i64 (VM.at_ c i).b], lv'] (wr.alloc (.cells #[.int .i64 (VM.at_ c i).op, .int .i64 (VM.at_ c i).a, .int .i64 (VM.at_ c i).b] 50)) fun e w' => e = .returned (.bool (VM.takes c (VM.at_ c i) (l.drop q))) ∧ Below (wr.alloc (.cells #[.int .i64 (VM.at_ c i).op, .int .i64 (VM.at_ c i).a, .int .i64 (VM.at_ c i).b] 50)).heap.size (wr.alloc (.cells #[.int .i64 (VM.at_ c i).op, .int .i64 (VM.at_ c i).a, .int .i64 (VM.at_ c i).b] 50)) w') := fun ho => (HF1.out.below hb2).takes (by have := hb2.size; have := HG1.out.size; omega) hic ho
              obtain ⟨v2, t2, -, -⟩ := S2
              have n1 := cell_of_row _ _ 1 _ _ _ t2.next.struct_
              have n2 : i + 1 < N → _ := fun h => (cell_of_row _ _ (i + 1) _ _ _ t2.next.has).trans (flags_get N x (i + 1) h)
              have HS2 : Hid (Seen B mh hh mx hx N W1 vh vx x h' (wr.alloc (.cells #[.int .i64 (VM.at_ c i).op, .int .i64 (VM.at_ c i).a, .int .i64 (VM.at_ c i).b] 50))) := HS.out.alloc _
              have HFD : Hid (VM.First c (l.drop q) x i = (decide ((VM.at_ c i).op = 5) || (decide ((VM.at_ c i).op = 1) && decide (i + 1 ∈ x) && VM.takes c (VM.at_ c i) (l.drop q)))) := rfl
              clear i0 i1 i2 hics hbel hb2 t2 hib' z0
              generalize VM.takes c (VM.at_ c i) (l.drop q) = tk at HTK HFD
              generalize (VM.at_ c i).op = o at *
              generalize (VM.at_ c i).a = a at *
              generalize (VM.at_ c i).b = b at *
              have hiz : (i : Int) < (N : Int) := by omega
              by_cases ho5 : o = 5
              · subst ho5
                have HY : Hid (VM.First c (l.drop q) x i = true) := (show VM.First c (l.drop q) x i = true by rw [HFD.out]; rfl)
                clear HTK HNX n2
                go_wp2_with fail
                refine CM.mono ?_
                rintro e w4 ⟨rfl, hS4⟩
                have HS4 : Hid (Seen B mh hh mx hx N W1 vh vx x (VM.meet h' i) w4) := hS4
                clear CM hS4
                go_wp2_with fail
                go_roundw
                case rel => exact ⟨i + 1, _, by go_num, by omega, HS4.out, HMe.out.meet hlt, first_yes HFS.out HY.out⟩
                case measure => simp [intOf]; omega
              · by_cases ho1 : o = 1
                · subst ho1
                  have hn := HNX.out rfl
                  have n3 := n2 hn
                  have TK := HTK.out rfl
                  have hnz : (i : Int) + 1 < (N : Int) := by omega
                  clear HTK HNX n2
                  by_cases hm : i + 1 ∈ x
                  · simp only [hm, decide_true] at n3
                    go_wp2_with fail
                    refine TK.mono ?_
                    rintro e w3 ⟨rfl, hb3⟩
                    have HS3 : Hid (Seen B mh hh mx hx N W1 vh vx x h' w3) := by
                      obtain ⟨v, T, hb, hl⟩ := HS2.out
                      exact ⟨v, T.below hb3, hb.trans (But.of_below hb3 (fun _ => False)) (fun _ h => h.elim), hl⟩
                    obtain ⟨y0, y1, y2, y3, y4⟩ := (HX1.out.keep HT1.out HS3.out).cells
                    clear TK hb3 z1 z2' z3 z4 CM
                    have CM := HS3.out.meet hlen HMe.out hlt
                    cases tk with
                    | true =>
                      have HY : Hid (VM.First c (l.drop q) x i = true) := (show VM.First c (l.drop q) x i = true by rw [HFD.out]; simp [hm])
                      go_wp2_with fail
                      refine CM.mono ?_
                      rintro e w4 ⟨rfl, hS4⟩
                      have HS4 : Hid (Seen B mh hh mx hx N W1 vh vx x (VM.meet h' i) w4) := hS4
                      clear CM hS4
                      go_wp2_with fail
                      go_roundw
                      case rel => exact ⟨i + 1, _, by go_num, by omega, HS4.out, HMe.out.meet hlt, first_yes HFS.out HY.out⟩
                      case measure => simp [intOf]; omega
                    | false =>
                      have HY : Hid (VM.First c (l.drop q) x i = false) := (show VM.First c (l.drop q) x i = false by rw [HFD.out]; simp)
                      clear CM
                      go_wp2_with fail
                      go_roundw
                      case rel => exact ⟨i + 1, _, by go_num, by omega, HS3.out, HMe.out, first_no HFS.out HY.out⟩
                      case measure => simp [intOf]; omega
                  · simp only [hm, decide_false] at n3
                    have HY : Hid (VM.First c (l.drop q) x i = false) := (show VM.First c (l.drop q) x i = false by rw [HFD.out]; simp [hm])
                    clear CM TK
                    go_wp2_with fail
                    go_roundw
                    case rel => exact ⟨i + 1, _, by go_num, by omega, HS2.out, HMe.out, first_no HFS.out HY.out⟩
                    case measure => simp [intOf]; omega
                · have e5 : (o == 5) = false := by simp [ho5]
                  have e1 : (o == 1) = false := by simp [ho1]
                  have HY : Hid (VM.First c (l.drop q) x i = false) := (show VM.First c (l.drop q) x i = false by rw [HFD.out]; simp [ho5, ho1])
                  clear CM HTK HNX n2
                  go_wp2_with fail
                  go_roundw
                  case rel => exact ⟨i + 1, _, by go_num, by omega, HS2.out, HMe.out, first_no HFS.out HY.out⟩
                  case measure => simp [intOf]; omega
            · obtain rfl : i = N := by omega
              have hiz : ¬ ((i : Int) < (i : Int)) := by omega
              obtain ⟨v2, t2, hb2, hl2⟩ := HS.out
              have hbel := HS.out.below HT1.out
              have HXB : Hid (Boxes wr bA w.heap.size WR.heap.size bh mh (.slice (some ⟨ob, 0, none⟩) i i) sv (.slice (some ⟨ib, ioff, none⟩) i icap) lv') := HX1.out.keep HT1.out HS.out
              have hlowB := HG1.out.low
              have HOW : Hid (wr.heap[w.heap.size + 1]? = some (.cells (bits (l.length + 1) (known c l (q + 1))) 4 (0, 0))) := (hbel.block _ (by omega)).trans HO1.out
              have HGW : Hid (Ground w B (w.heap.size + 1) bA w.heap.size ob sv (.slice (some ⟨ib, ioff, none⟩) i icap) (.slice po L pc) c l wr) := HG1.out.but (hb2.mono (fun j hj => .inl (.inr (foot_low HT1.out.here hj)))) ⟨_, HOW.out⟩
              have hLA := HGW.out.ledAt
              rw [← HN.out] at hLA
              have CE := eachBack_n B mh hh mx hx bA w.heap.size WR.heap.size bh _ sv _ lv' c (l.drop q) h' x v2 vx wr i HN.out (HF1.out.below hbel) hLA t2 HXB.out HMe.out
              have HXA : Hid (∀ p q', l.drop q = p :: q' → ∀ k, k ∈ x ↔ k < c.ins.length ∧ VM.Acc c q' k) := fun p q' e k => by
                have hlt : q < l.length := by
                  rcases Nat.lt_or_ge q l.length with h | h
                  · exact h
                  · rw [List.drop_of_length_le h] at e; cases e
                rw [List.drop_eq_getElem_cons hlt] at e
                cases e
                rw [← HN.out]
                exact HR.out.acc hlt k
              have HH1 : Hid (∀ j, j ∈ h' ↔ j < c.ins.length ∧ VM.First c (l.drop q) x j = true) := fun j => by rw [← HN.out]; exact HFS.out j
              have HRR : Hid (VM.right c = true) := HF1.out.right
              have HT2 : Hid (Tw B mh hh mx hx i wr v2 vx h' x) := t2
              obtain ⟨-, -, -, -, y4⟩ := HXB.out.cells
              clear t2 hb2 hl2 hbel hLA
              go_wp2_with fail
              refine CE.mono ?_
              rintro e w5 ⟨⟨r, rfl⟩, H, hS5, hm5, hp5, hc5, hs5⟩
              have key := met_acc HRR.out HXA.out HH1.out (by rw [← HN.out]; exact hm5) hp5 (by rw [← HN.out]; exact hc5) hs5
              have HX5 := HXB.out.keep HT2.out hS5
              have hbel5 := hS5.below HT2.out
              obtain ⟨v5, t5, hb5, hl5⟩ := hS5
              have ho5 := (hbel5.block _ (show w.heap.size + 1 < B by omega)).trans HOW.out
              have hg5 := HGW.out.but (hb5.mono (fun j hj => .inl (.inr (foot_low HT2.out.here hj)))) ⟨_, ho5⟩
              have TU := turned (q := q) hg5 t5 HX5.cH HR.out.bh_ ho5 (by have := HL.out; omega) (by omega) key.2
              have HTU : Hid _ := TU
              have HT5 : Hid (Tw B mh hh mx hx i w5 v5 vx H x) := t5
              have HM5 : Hid (VM.Met i H) := hm5
              have HK : Hid (∀ k, k ∈ H ↔ k < i ∧ VM.Acc c (l.drop q) k) := fun k => by
                have := key.1 k
                rw [← HN.out] at this
                exact this
              obtain ⟨r1, r2, r3, ⟨u4, r4⟩, r5, r6, r7, r8, hnx, -, -, -, -⟩ := TU
              have CF := forget_any B mx hx vx i x _ hnx hlen HR.out.met
              have hqz : (q : Int) < (L : Int) + 1 := by omega
              clear CE hp5 hc5 hs5 key HX5 hbel5 t5 hb5 hl5 ho5 hg5 hnx y4 hm5
              generalize decide (0 ∈ H) = bb at *
              go_wp2_with fail
              refine CF.mono ?_
              rintro e w8 ⟨rfl, v8, hM8, hb8, he8⟩
              have HR8 : Hid (Round w B (w.heap.size + 1) bA w.heap.size ob bh sv (.slice (some ⟨ib, ioff, none⟩) i icap) (.slice po L pc) c l i q mx hx mh hh v8 v5 H w8) := HTU.out.close HT5.out HR.out.bh_ hM8 hb8 he8 HM5.out HK.out
              clear CF hM8 hb8 he8 r1 r2 r3 r4 r5 r6 r7 r8
              go_wp2_with fail
              go_roundw
              case rel => exact ⟨q, mx, hx, mh, hh, v8, v5, H, rfl, by first | rfl | go_num, by omega, HR8.out⟩
              case measure => simp [intOf]

end Go.Proofs.YtddjppkpgflbjaaDoor
