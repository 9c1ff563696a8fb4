/- vm.Breaks, by what says says. -/
import Derived.Test.YtddjppkpgflbjaaDoorVmN
import Derived.Test.YtddjppkpgflbjaaDoorVmY
import Derived.BigQuiet
import Derived.Deep.QuietTactic
namespace Go.Proofs.YtddjppkpgflbjaaDoor
open Go.RowKit Go.Shelf

/-- A slice of flags. -/
def FlagsAt (B : Nat) (w : World) (v : Value) (l : List Bool) : Prop :=
  ∃ ao cap, v = .slice ao l.length cap ∧ l.length ≤ cap ∧ (l ≠ [] → ∃ b off, ao = some ⟨b, off, none⟩ ∧ b < B ∧ ∀ k (h : k < l.length), w.cell? ⟨b, off + k, none⟩ = some (.bool l[k]))

theorem FlagsAt.below {w w' : World} {B : Nat} {v : Value} {s : List Bool} (h : FlagsAt B w v s) (hb : Below B w w') (B' : Nat) (hB : B ≤ B') : FlagsAt B' w' v s := by
  obtain ⟨ao, cap, rfl, hc, h⟩ := h
  refine ⟨ao, cap, rfl, hc, fun hz => ?_⟩
  obtain ⟨b, off, e, hbl, hc⟩ := h hz
  exact ⟨b, off, e, by omega, fun k hk => (hb.cell (by exact hbl)).trans (hc k hk)⟩

/-- The places from one on at which it is said, of the first so many. -/
def insides (s : List Bool) (k : Nat) : List Int := ((List.range k).filter fun j => decide (1 ≤ j) && s.getD j false).map fun (j : Nat) => (j : Int)

theorem insides_succ (s : List Bool) (k : Nat) (hk : 1 ≤ k) : insides s (k + 1) = if s.getD k false then insides s k ++ [(k : Int)] else insides s k := by
  unfold insides
  rw [List.range_succ, List.filter_append, List.map_append]
  have : decide (1 ≤ k) = true := decide_eq_true hk
  cases h : s.getD k false <;> simp only [List.filter_cons, List.filter_nil, this, h] <;> simp

theorem insides_one (s : List Bool) : insides s 1 = [] := by
  simp [insides]

theorem insides_len (s : List Bool) (k : Nat) : (insides s k).length ≤ k := by
  unfold insides
  rw [List.length_map]
  exact Nat.le_trans (List.length_filter_le _ _) (by simp)

/-- Where a program breaks, by what is said of each place. -/
def breaksOf (s : List Bool) (n : Nat) : List Int := if n = 0 then [] else 0 :: insides s n ++ [(n : Int)]

/-- What Breaks answers. -/
def BreaksSay (q : Bool) (s : List Bool) (n : Nat) (e : Ending) (w' : World) : Prop :=
  (q = true → ∃ v, e = .returned (.tuple #[v, .nilIface]) ∧ PtsAt w'.heap.size w' v (breaksOf s n)) ∧ (q = false → e = .returned (.tuple #[.slice none 0 0, .iface 32 (.int .i64 1)]))

/-- A number more in an own row. -/
theorem own_more {B : Nat} {W : World} {v : Value} {l : List Int} (x : Int) (ho : W.ownsRow B 3 1 v l.length (ptsV l)) (hl : l.length ≤ 200000) (hB : B ≤ W.heap.size) :
    ∃ v' W2, (Builtin.append_ #[29, 29] 29 #[v, .slice (some ⟨W.heap.size, 0, none⟩) 1 1]).run Tryd.prog (W.alloc (.cells #[.int .i64 x] 3)) = .ok v' W2 ∧ W2.ownsRow B 3 1 v' (l ++ [x]).length (ptsV (l ++ [x])) ∧ Below B W W2 := by
  obtain ⟨i3, hi3, hz0, hz1, hz2⟩ := info_parts info3
  have hb0 : Below W.heap.size W (W.alloc (.cells #[.int .i64 x] 3)) := (Below.refl _ W).alloc (Nat.le_refl _) _
  obtain ⟨v', W2, hr, h2, h3, h4⟩ := append_where (P := Tryd.prog) (W.alloc (.cells #[.int .i64 x] 3)) B 29 29 3 i3 (.int .i64 0) 8 Tryd.underlying29 hi3 hz0 hz1 hz2 rfl _ _ _ (own_but ho (But.of_below hb0 (fun _ => False)) (fun _ _ => id)) ⟨W.heap.size, 0, none⟩ 1 (.int .i64 x) (by rw [World.cell?_alloc_at _ _ _ _ rfl]; rfl) rfl (by unfold maxLen; omega) (by omega) (by have := hb0.size; omega)
  refine ⟨v', W2, hr, ?_, (hb0.mono hB).trans ⟨h3.os, h3.tape, h3.output, h3.size, fun j hj => h3.block j (by have := hb0.size; omega) (fun e => by
    have := (own_block ho e.symm).1
    omega)⟩⟩
  rw [List.length_append, show ptsV (l ++ [x]) = ptsV l ++ [.int .i64 x] by simp [ptsV]]
  exact h2

theorem own_one (W : World) (x : Int) (B : Nat) (hB : B ≤ W.heap.size) : (W.alloc (.cells #[.int .i64 x] 3)).ownsRow B 3 1 (.slice (some ⟨W.heap.size, 0, none⟩) 1 1) 1 (ptsV [x]) :=
  ⟨rfl, .inr ⟨W.heap.size, 1, #[.int .i64 x], rfl, hB, heap_alloc_new _ _, Nat.le_refl _, by unfold maxLen; omega, rfl, rfl⟩⟩

set_option maxHeartbeats 4000000 in
set_option maxRecDepth 100000 in
theorem breaks_by (rv lv : Value) (el : Bool) (rs : List VM.Ru) (l : List Int) (s : List Bool) (w : World) (hR : PairsAt w.heap.size w rv rs) (hl : PtsAt w.heap.size w lv l) (hn : l.length ≤ 100000) (hs : s.length = l.length + 1)
    (hsays : VM.rightProg rs = true → ∀ W, Below (w.heap.size + 1) (w.alloc (.cells #[rv, .bool el] 28)) W → Calls Tryd.prog 38 #[.agg #[rv, .bool el], lv] W fun e W' => (∃ v, e = .returned v ∧ FlagsAt W'.heap.size W' v s) ∧ Below W.heap.size W W') :
    Calls Tryd.prog 15 #[.agg #[rv, .bool el], lv] w fun e w' => BreaksSay (VM.rightProg rs) s l.length e w' ∧ Below w.heap.size w w' := by
  have hb0 : Below w.heap.size w (w.alloc (.cells #[rv, .bool el] 28)) := (Below.refl _ w).alloc (Nat.le_refl _) _
  have HB0 : Hid (Below w.heap.size w (w.alloc (.cells #[rv, .bool el] 28))) := hb0
  have C1 := progRight_any rv el rs (w.alloc (.cells #[rv, .bool el] 28)) (hR.below hb0 _ hb0.size)
  have hc0 : (w.alloc (.cells #[rv, .bool el] 28)).cell? ⟨w.heap.size, 0, none⟩ = some rv := by simp
  have hc1 : (w.alloc (.cells #[rv, .bool el] 28)).cell? ⟨w.heap.size, 1, none⟩ = some (.bool el) := by simp
  have hsz0 : (w.alloc (.cells #[rv, .bool el] 28)).heap.size = w.heap.size + 1 := by simp
  obtain ⟨ao, cap, hrv, -, -⟩ := hR
  obtain ⟨lo, lcap, hlv, hlc, -⟩ := hl
  generalize VM.rightProg rs = q at C1 hsays ⊢
  generalize rs.length = R at hrv
  obtain ⟨n, hN⟩ : ∃ n, n = l.length := ⟨_, rfl⟩
  rw [← hN] at hlv hlc hn hs ⊢
  have HS : Hid (s.length = n + 1) := hs
  clear hN hb0 hs
  subst hrv hlv
  generalize hW0 : w.alloc (.cells #[Value.slice ao R cap, .bool el] 28) = W0 at *
  go_enter Tryd.func15, Tryd.ntmps15
  go_wp2_with fail
  refine C1.mono ?_
  rintro e w1 ⟨rfl, hb1⟩
  have hbw1 : Below (w.heap.size + 1) W0 w1 := hb1.mono (by omega)
  have C2 := fun h => hsays h w1 hbw1
  have HB1 : Hid (Below w.heap.size w w1) := HB0.out.trans (hbw1.mono (by omega))
  have d0 := (hbw1.cell (p := ⟨w.heap.size, 0, none⟩) (by simp)).trans hc0
  have d1 := (hbw1.cell (p := ⟨w.heap.size, 1, none⟩) (by simp)).trans hc1
  have hw1 := hb1.size
  clear C1 hsays hb1 hbw1 hc0 hc1
  cases q with
  | false =>
    clear C2
    go_wp2_with fail
    go_ret2
    exact ⟨⟨fun h => absurd h (by decide), (fun _ => rfl)⟩, HB1.out⟩
  | true =>
    have D2 := C2 rfl
    clear C2
    by_cases hn0 : n = 0
    · subst hn0
      clear D2
      go_wp2_with fail
      go_ret2
      exact ⟨⟨fun _ => ⟨_, rfl, none, 0, rfl, Nat.le_refl _, fun h => absurd rfl h⟩, fun h => absurd h (by decide)⟩, HB1.out⟩
    · have hz : ((n : Int) == 0) = false := by simp; omega
      go_wp2_with fail
      refine D2.mono ?_
      rintro e w2 ⟨⟨v, rfl, hf⟩, hb2⟩
      have HB2 : Hid (Below w.heap.size w w2) := HB1.out.trans (hb2.mono HB1.out.size)
      obtain ⟨fo, fcap, hfv, hfc, hfcell⟩ := hf
      have HFC : Hid _ := hfcell
      rw [HS.out] at hfv hfc
      clear D2 hb2 hfcell d0 d1
      subst hfv
      go_wp2_with fail
      have HBA : Hid (Below w2.heap.size w2 (w2.alloc (.cells #[.int .i64 0] 3))) := (Below.refl _ w2).alloc (Nat.le_refl _) _
      have HOA : Hid ((w2.alloc (.cells #[.int .i64 0] 3)).ownsRow w2.heap.size 3 1 (.slice (some ⟨w2.heap.size, 0, none⟩) 1 1) 1 (ptsV [0])) := own_one w2 0 _ (Nat.le_refl _)
      go_loopw [7, 8] (fun v ix wr => ∃ k : Nat, ix = .int .i64 k ∧ 1 ≤ k ∧ k ≤ n ∧ wr.ownsRow w2.heap.size 3 1 v (0 :: insides s k).length (ptsV (0 :: insides s k)) ∧ Below w2.heap.size w2 wr) (fun _ ix _ => n - (intOf ix).toNat)
      case atStart =>
        refine ⟨1, rfl, Nat.le_refl _, by omega, ?_, HBA.out⟩
        rw [insides_one]; exact HOA.out
      case round =>
        obtain ⟨k, rfl, hk1, hkn, hown, hb⟩ := hrel
        have HB : Hid (Below w2.heap.size w2 wr) := hb
        have HO : Hid (wr.ownsRow w2.heap.size 3 1 u7 (0 :: insides s k).length (ptsV (0 :: insides s k))) := hown
        have hil := insides_len s k
        have hrl : (0 :: insides s k).length ≤ 200000 := by rw [List.length_cons]; omega
        obtain ⟨vo, vp, hvs⟩ := own_slice hown
        by_cases hlt : k < n
        · obtain ⟨v', W2, hr, h2, h3⟩ := own_more (k : Int) hown hrl hb.size
          have HR : Hid _ := hr
          have hks : k < s.length := by have := HS.out; omega
          obtain ⟨fb, foff, rfl, hfb, hcs⟩ := HFC.out (fun e => by rw [e] at hks; simp at hks)
          have jc := (hb.cell (p := ⟨fb, foff + k, none⟩) (by exact hfb)).trans (hcs k hks)
          have HI : Hid (insides s (k + 1) = if s[k] then insides s k ++ [(k : Int)] else insides s k) := by
            show _ = _
            rw [insides_succ s k hk1, List.getD_eq_getElem?_getD, List.getElem?_eq_getElem hks]
            rfl
          generalize s[k] = q at jc HI
          have HO2 : Hid (W2.ownsRow w2.heap.size 3 1 v' ((0 :: insides s k) ++ [(k : Int)]).length (ptsV ((0 :: insides s k) ++ [(k : Int)]))) := h2
          have HB3 : Hid (Below w2.heap.size w2 W2) := hb.trans h3
          have hkz : (k : Int) < (n : Int) := by omega
          clear hcs h2 h3 hr hb hown hil hrl
          cases q with
          | true =>
            go_wp2_with (at_builtin; refine Lib.wpList_append_run _ rfl _ _ _ _ rfl _ _ rfl rfl _ _ HR.out ?_)
            case roundEnd => exact ⟨⟨k + 1, by go_num, by omega, by omega, by rw [HI.out]; exact HO2.out, HB3.out⟩, by simp [intOf]; omega⟩
          | false =>
            go_wp2_with fail
            case roundEnd => exact ⟨⟨k + 1, by go_num, by omega, by omega, by rw [HI.out]; exact HO.out, HB.out⟩, by simp [intOf]; omega⟩
        · obtain rfl : k = n := by omega
          obtain ⟨v', W2, hr, h2, h3⟩ := own_more (k : Int) hown hrl hb.size
          have HR : Hid _ := hr
          have HB3 : Hid (Below w.heap.size w W2) := HB2.out.trans ((hb.trans h3).mono HB2.out.size)
          have HO2 : Hid (W2.ownsRow w2.heap.size 3 1 v' ((0 :: insides s k) ++ [(k : Int)]).length (ptsV ((0 :: insides s k) ++ [(k : Int)]))) := h2
          have hkz : ¬ ((k : Int) < (k : Int)) := by omega
          clear h2 h3 hr hb hown hil hrl
          go_wp2_with (at_builtin; refine Lib.wpList_append_run _ rfl _ _ _ _ rfl _ _ rfl rfl _ _ HR.out ?_)
          go_ret2
          refine ⟨⟨fun _ => ⟨_, rfl, ?_⟩, (fun h => absurd h (by decide))⟩, HB3.out⟩
          unfold breaksOf
          rw [if_neg hn0]
          exact pts_of_own HO2.out

end Go.Proofs.YtddjppkpgflbjaaDoor
