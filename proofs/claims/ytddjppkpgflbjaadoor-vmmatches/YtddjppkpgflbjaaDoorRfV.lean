/- The law VmMatches, walked. -/
import Derived.Test.YtddjppkpgflbjaaDoorRfU
import Derived.Test.YtddjppkpgflbjaaDoorRfF
import Derived.Test.YtddjppkpgflbjaaDoorRfCD
import Derived.Deep.DrawnRows
namespace Go.Proofs.YtddjppkpgflbjaaDoor
open Go.RowKit Go.Shelf
attribute [local go_sem ↓] Go.wp_at_zero Go.wp_at_succ

/-- What the law holds from its first look on. -/
def Both (w : World) (sv iv rv : Value) (el : Bool) (W : World) : Prop :=
  W.cell? ⟨w.heap.size, 0, none⟩ = some sv ∧ W.cell? ⟨w.heap.size, 1, none⟩ = some iv ∧ W.cell? ⟨w.heap.size + 1, 0, none⟩ = some rv ∧ W.cell? ⟨w.heap.size + 1, 1, none⟩ = some (.bool el) ∧ Below w.heap.size w W ∧ w.heap.size + 1 < W.heap.size

theorem Both.start (w : World) (sv iv rv : Value) (el : Bool) : Both w sv iv rv el ((w.alloc (.cells #[sv, iv] 25)).alloc (.cells #[rv, .bool el] 28)) := by
  have hb1 : Below (w.alloc (.cells #[sv, iv] 25)).heap.size (w.alloc (.cells #[sv, iv] 25)) ((w.alloc (.cells #[sv, iv] 25)).alloc (.cells #[rv, .bool el] 28)) := (Below.refl _ _).alloc (Nat.le_refl _) _
  have h0 : ((w.alloc (.cells #[sv, iv] 25)).alloc (.cells #[rv, .bool el] 28)).heap[w.heap.size]? = some (.cells #[sv, iv] 25 (0, 0)) := (hb1.block _ (by simp)).trans (heap_alloc_new _ _)
  have h1 : ((w.alloc (.cells #[sv, iv] 25)).alloc (.cells #[rv, .bool el] 28)).heap[w.heap.size + 1]? = some (.cells #[rv, .bool el] 28 (0, 0)) := by
    have := heap_alloc_new (w.alloc (.cells #[sv, iv] 25)) (.cells #[rv, .bool el] 28)
    simpa using this
  exact ⟨cell_of_row _ _ 0 _ _ _ h0, cell_of_row _ _ 1 _ _ _ h0, cell_of_row _ _ 0 _ _ _ h1, cell_of_row _ _ 1 _ _ _ h1, ((Below.refl _ w).alloc (Nat.le_refl _) _).alloc (by simp) _, by simp⟩

theorem Both.call {w : World} {sv iv rv : Value} {el : Bool} {W W' : World} (h : Both w sv iv rv el W) (hb : Below W.heap.size W W') : Both w sv iv rv el W' := by
  obtain ⟨h1, h2, h3, h4, h5, h6⟩ := h
  have := hb.size
  exact ⟨(hb.cell (by exact cell_lt h1)).trans h1, (hb.cell (by exact cell_lt h2)).trans h2, (hb.cell (by exact cell_lt h3)).trans h3, (hb.cell (by exact cell_lt h4)).trans h4, h5.trans (hb.mono h5.size), by omega⟩

theorem Both.open_ {w : World} {sv iv rv : Value} {el : Bool} {W : World} (h : Both w sv iv rv el W) : W.cell? ⟨w.heap.size, 0, none⟩ = some sv ∧ W.cell? ⟨w.heap.size, 1, none⟩ = some iv ∧ W.cell? ⟨w.heap.size + 1, 0, none⟩ = some rv ∧ W.cell? ⟨w.heap.size + 1, 1, none⟩ = some (.bool el) ∧ Below w.heap.size w W ∧ w.heap.size + 1 < W.heap.size := h

theorem Both.mk' {w : World} {sv iv rv : Value} {el : Bool} {W : World} (h : W.cell? ⟨w.heap.size, 0, none⟩ = some sv ∧ W.cell? ⟨w.heap.size, 1, none⟩ = some iv ∧ W.cell? ⟨w.heap.size + 1, 0, none⟩ = some rv ∧ W.cell? ⟨w.heap.size + 1, 1, none⟩ = some (.bool el) ∧ Below w.heap.size w W ∧ w.heap.size + 1 < W.heap.size) : Both w sv iv rv el W := h

/-- A call that keeps all that lay. -/
def Gives (w : World) (sv iv rv : Value) (el : Bool) (f : FuncId) (args : Array Value) (v : Value) : Prop :=
  ∀ W, Both w sv iv rv el W → Calls Tryd.prog f args W fun e W' => e = .returned v ∧ Both w sv iv rv el W'

theorem own_form {B : Nat} {w : World} {v : Value} {n : Nat} {xs : List Value} (h : w.ownsRow B 3 1 v n xs) : ∃ ao cap, v = .slice ao n cap ∧ (ao = none → cap = 0) := by
  obtain ⟨_, ⟨rfl, rfl⟩ | ⟨g, cap, cur, rfl, _⟩⟩ := h
  · exact ⟨none, 0, rfl, fun _ => rfl⟩
  · exact ⟨_, _, rfl, fun h => by cases h⟩

set_option maxHeartbeats 2000000 in
set_option maxRecDepth 100000 in
theorem matches_any (sv iv rv lv : Value) (el : Bool) (c : VM.Co) (rs : List VM.Ru) (l : List Int) (w : World) (F : CoAt w.heap.size w sv iv c) (hR : PairsCo w.heap.size w rv rs) (hT : ET w)
    (hl : PtsAt w.heap.size w lv l) (lo : Option Addr) (lc : Nat) (hlv : lv = .slice lo l.length lc) (hln : lo = none → lc = 0) :
    Calls Tryd.prog 3 #[.agg #[sv, iv], .agg #[rv, .bool el], lv] w fun e w' => e = .returned (.bool true) ∧ Below w.heap.size w w' := by
  have hT0 := lt_cell hT
  have G5 : Hid (Gives w sv iv rv el 5 #[.agg #[sv, iv]] (.bool (isSmall c))) := fun W hW => by
    refine (lawSmall_any sv iv c W (F.below hW.2.2.2.2.1 _ hW.2.2.2.2.1.size)).mono ?_
    rintro e W' ⟨h1, hb⟩
    exact ⟨h1, hW.call hb⟩
  have G6 : Hid (Gives w sv iv rv el 6 #[.agg #[rv, .bool el]] (.bool (isSmallProg rs))) := fun W hW => by
    refine (smallProg_any rv el rs W (hR.below hW.2.2.2.2.1 _ hW.2.2.2.2.1.size)).mono ?_
    rintro e W' ⟨h1, hb⟩
    exact ⟨h1, hW.call hb⟩
  have HB0 : Hid (Both w sv iv rv el ((w.alloc (.cells #[sv, iv] 25)).alloc (.cells #[rv, .bool el] 28))) := Both.start w sv iv rv el
  have HSM : Hid (isSmall c = true → ∀ W, Both w sv iv rv el W → Small W.heap.size W sv iv c) := fun hs W hW => (small_lens F hs).below hW.2.2.2.2.1 _ hW.2.2.2.2.1.size
  have HSP : Hid (isSmallProg rs = true → rs.length ≤ 25 ∧ ∀ W, Both w sv iv rv el W → PairsAt W.heap.size W rv rs) := fun hs => ⟨(smallProg_parts hs).1, fun W hW => (hR.small (smallProg_parts hs).2).below hW.2.2.2.2.1 _ hW.2.2.2.2.1.size⟩
  have HL : Hid (∀ W, Both w sv iv rv el W → PtsAt W.heap.size W lv l) := fun W hW => hl.below hW.2.2.2.2.1 _ hW.2.2.2.2.1.size
  have HT : Hid (∀ W, Both w sv iv rv el W → ET W ∧ 0 < W.heap.size) := fun W hW => ⟨hT.below hW.2.2.2.2.1 hT0, by have := hW.2.2.2.2.2; omega⟩
  obtain ⟨⟨sao, sn, scp, hsv⟩, iao, in_, icp, hiv⟩ : (∃ a n p, sv = .slice a n p) ∧ ∃ a n p, iv = .slice a n p := by
    obtain ⟨ao, cap, h1, -, -⟩ := F.1
    obtain ⟨ao2, cap2, h2, -, -⟩ := F.2
    exact ⟨⟨_, _, _, h1⟩, ⟨_, _, _, h2⟩⟩
  obtain ⟨rao, rn_, rcp, hrv⟩ : ∃ a n p, rv = .slice a n p := by
    obtain ⟨ao, cap, h1, -, -⟩ := hR
    exact ⟨_, _, _, h1⟩
  obtain ⟨L, hL⟩ : ∃ L, L = l.length := ⟨_, rfl⟩
  have HLL : Hid (L = l.length) := hL
  have HLN : Hid (lo = none → lc = 0) := hln
  rw [← hL] at hlv
  clear F hR hT hl hL hln
  subst hsv hiv hrv hlv
  generalize hW0 : (w.alloc (.cells #[.slice sao sn scp, .slice iao in_ icp] 25)).alloc (.cells #[.slice rao rn_ rcp, .bool el] 28) = W0 at *
  have C1 := G5.out _ HB0.out
  obtain ⟨k0, k1, k2, k3, -, -⟩ := HB0.out
  go_enter Tryd.func3, Tryd.ntmps3
  go_wp2_with fail
  refine C1.mono ?_
  rintro e w1 ⟨rfl, hB1⟩
  have H1 : Hid (Both w (.slice sao sn scp) (.slice iao in_ icp) (.slice rao rn_ rcp) el w1) := hB1
  clear C1 k0 k1 k2 k3
  obtain ⟨k0, k1, k2, k3, -, -⟩ := H1.out
  have C2 := G6.out w1 H1.out
  generalize isSmall c = q at *
  cases q with
  | false =>
    clear C2
    go_wp2_with fail
    go_ret
    exact ⟨rfl, H1.out.2.2.2.2.1⟩
  | true =>
    have HSM2 : Hid (∀ W, Both w (.slice sao sn scp) (.slice iao in_ icp) (.slice rao rn_ rcp) el W → Small W.heap.size W (.slice sao sn scp) (.slice iao in_ icp) c) := HSM.out rfl
    clear HSM
    go_wp2_with fail
    refine C2.mono ?_
    rintro e w2 ⟨rfl, hB2⟩
    have H2 : Hid (Both w (.slice sao sn scp) (.slice iao in_ icp) (.slice rao rn_ rcp) el w2) := hB2
    clear C2 k0 k1 k2 k3 hB1 hB2
    generalize isSmallProg rs = q at *
    cases q with
    | false =>
      go_wp2_with fail
      go_ret
      exact ⟨rfl, H2.out.2.2.2.2.1⟩
    | true =>
      have HSP2 := HSP.out rfl
      have HSP3 : Hid (∀ W, Both w (.slice sao sn scp) (.slice iao in_ icp) (.slice rao rn_ rcp) el W → PairsAt W.heap.size W (.slice rao rn_ rcp) rs) := HSP2.2
      have hrs : rs.length ≤ 25 := HSP2.1
      clear HSP HSP2
      by_cases h40 : L ≤ 40
      · have hz1 : ¬ (40 : Int) < (L : Int) := by omega
        obtain ⟨ra, rn, en, ev, hA1, hA2, hev⟩ : ∃ (ra : Bool) (rn : Nat) (en : Int) (ev : Value), refAnswer c l = .tuple #[.bool ra, .int .i64 (rn : Int), .int .i64 en] ∧ answer c l = .tuple #[.bool ra, .int .i64 (rn : Int), ev] ∧
            Gives w (.slice sao sn scp) (.slice iao in_ icp) (.slice rao rn_ rcp) el 9 #[ev, .int .i64 en] (.bool true) := by
          unfold refAnswer answer
          cases VM.right c with
          | true =>
            refine ⟨_, _, 0, .nilIface, rfl, rfl, fun W hW => (bare_nil W).mono ?_⟩
            rintro e W' ⟨h1, hb⟩
            exact ⟨h1, hW.call hb⟩
          | false =>
            refine ⟨false, 0, 1, .iface 32 (.int .i64 1), rfl, rfl, fun W hW => (bare_errno 1 W (HT.out W hW).1 (HT.out W hW).2).mono ?_⟩
            rintro e W' ⟨h1, hb⟩
            exact ⟨h1, hW.call hb⟩
        have HEV : Hid (Gives w (.slice sao sn scp) (.slice iao in_ icp) (.slice rao rn_ rcp) el 9 #[ev, .int .i64 en] (.bool true)) := hev
        have C3 := refMatch_any _ _ _ c l w2 (HSM2.out w2 H2.out) (HL.out w2 H2.out) (by rw [← HLL.out]; omega)
        rw [hA1] at C3
        have HA2 : Hid (answer c l = .tuple #[.bool ra, .int .i64 (rn : Int), ev]) := hA2
        obtain ⟨k0, k1, k2, k3, -, -⟩ := H2.out
        clear hA1 hA2 hev
        go_wp2_with fail
        refine C3.mono ?_
        rintro e w3 ⟨rfl, hb3⟩
        have hS3 := H2.out.call hb3
        have H3 : Hid (Both w (.slice sao sn scp) (.slice iao in_ icp) (.slice rao rn_ rcp) el w3) := hS3
        clear C3 k0 k1 k2 k3 hb3 hS3
        go_upto_region 4 with fail
        have hS4 : Both w (.slice sao sn scp) (.slice iao in_ icp) (.slice rao rn_ rcp) el w3.drew := H3.out.call (below_drewN (Below.refl _ _) 1)
        have hb4 : Below w3.drew.heap.size w3.drew (w3.drew.alloc (.cells #[] 3)) := (Below.refl _ _).alloc (Nat.le_refl _) _
        have hS4a : Both w (.slice sao sn scp) (.slice iao in_ icp) (.slice rao rn_ rcp) el (w3.drew.alloc (.cells #[] 3)) := hS4.call hb4
        obtain ⟨v5, w5, hr5, ho5, hb5⟩ := append_pts w3.drew.heap.size (.slice (some ⟨w3.drew.heap.size, 0, none⟩) 0 0) (.slice lo L lc) l (w3.drew.alloc (.cells #[] 3)) (own_none w3.drew _ (Nat.le_refl _)) lo lc (by rw [← HLL.out]) HLN.out (HL.out _ hS4a) (by rw [← HLL.out]; omega) (by simp)
        have hS5 : Both w (.slice sao sn scp) (.slice iao in_ icp) (.slice rao rn_ rcp) el w5 := hS4.call (hb4.trans hb5)
        have HR5 : Hid ((Builtin.append_ #[29, 29] 29 #[.slice (some ⟨w3.drew.heap.size, 0, none⟩) 0 0, .slice lo L lc]).run Tryd.prog (w3.drew.alloc (.cells #[] 3)) = .ok v5 w5) := hr5
        have C8 := match_any _ _ v5 c l w5 (HSM2.out w5 hS5) (pts_of_own ho5) (by rw [← HLL.out]; omega)
        rw [HA2.out] at C8
        clear hb4 hr5 ho5 hb5
        go_region_held3 (fun W => W.cell? ⟨w.heap.size, 0, none⟩ = some (.slice sao sn scp) ∧ W.cell? ⟨w.heap.size, 1, none⟩ = some (.slice iao in_ icp) ∧ W.cell? ⟨w.heap.size + 1, 0, none⟩ = some (.slice rao rn_ rcp) ∧ W.cell? ⟨w.heap.size + 1, 1, none⟩ = some (.bool el) ∧ Below w.heap.size w W ∧ w.heap.size + 1 < W.heap.size) (exact Both.open_ (by assumption))
          (first
            | (go_at_call 8; refine C8.mono ?_; rintro e w8 ⟨rfl, hb8⟩; have hS8 := hS5.call hb8)
            | (refine step_append_run (by rfl) _ _ 29 (by rfl) _ _ _ _ (by rfl) (by rfl) HR5.out ?_))
        have H8 : Hid (Both w (.slice sao sn scp) (.slice iao in_ icp) (.slice rao rn_ rcp) el w8) := hS8
        clear hS4 hS4a hS5 hS8 HR5 C8 hb8
        have G10 : Hid (Gives w (.slice sao sn scp) (.slice iao in_ icp) (.slice rao rn_ rcp) el 10 #[.agg #[.slice sao sn scp, .slice iao in_ icp]] (.bool (VM.right c))) := fun W hW => by
          refine (codeRight_any _ _ c W (HSM2.out W hW)).mono ?_
          rintro e W' ⟨h1, hb⟩
          exact ⟨h1, hW.call hb⟩
        have G11 : Hid (Gives w (.slice sao sn scp) (.slice iao in_ icp) (.slice rao rn_ rcp) el 11 #[.agg #[.slice sao sn scp, .slice iao in_ icp]] (.bool (VM.right c))) := fun W hW => by
          refine (refRight_any _ _ c W (HSM2.out W hW)).mono ?_
          rintro e W' ⟨h1, hb⟩
          exact ⟨h1, hW.call hb⟩
        have G12 : Hid (Gives w (.slice sao sn scp) (.slice iao in_ icp) (.slice rao rn_ rcp) el 12 #[.agg #[.slice rao rn_ rcp, .bool el]] (.bool (VM.rightProg rs))) := fun W hW => by
          refine (progRight_any _ el rs W (HSP3.out W hW)).mono ?_
          rintro e W' ⟨h1, hb⟩
          exact ⟨h1, hW.call hb⟩
        have G13 : Hid (Gives w (.slice sao sn scp) (.slice iao in_ icp) (.slice rao rn_ rcp) el 13 #[.agg #[.slice rao rn_ rcp, .bool el]] (.bool (VM.rightProg rs))) := fun W hW => by
          refine (refProg_any _ el rs W (HSP3.out W hW) (by omega)).mono ?_
          rintro e W' ⟨h1, hb⟩
          exact ⟨h1, hW.call hb⟩
        obtain ⟨e2, ev2, kk, HE2, HK1, HK2⟩ : ∃ (e2 : Int) (ev2 : Value) (kk : List Int), Hid (∀ W, Both w (.slice sao sn scp) (.slice iao in_ icp) (.slice rao rn_ rcp) el W → Calls Tryd.prog 9 #[ev2, .int .i64 e2] W fun e W' => e = .returned (.bool true) ∧ Below W.heap.size W W') ∧
            Hid (∀ W, Both w (.slice sao sn scp) (.slice iao in_ icp) (.slice rao rn_ rcp) el W → Calls Tryd.prog 14 #[.agg #[.slice rao rn_ rcp, .bool el], .slice lo L lc] W fun e W' => (∃ v, e = .returned (.tuple #[v, .int .i64 e2]) ∧ PtsAt W'.heap.size W' v kk) ∧ Both w (.slice sao sn scp) (.slice iao in_ icp) (.slice rao rn_ rcp) el W') ∧
            Hid (kk.length ≤ 100000 ∧ ∀ (v : Value) (o : Option Addr) (p : Nat) W, Both w (.slice sao sn scp) (.slice iao in_ icp) (.slice rao rn_ rcp) el W → v = .slice o l.length p → (o = none → p = 0) → PtsAt W.heap.size W v l → Calls Tryd.prog 15 #[.agg #[.slice rao rn_ rcp, .bool el], v] W fun e W' => (∃ v', e = .returned (.tuple #[v', ev2]) ∧ PtsAt W'.heap.size W' v' kk) ∧ Both w (.slice sao sn scp) (.slice iao in_ icp) (.slice rao rn_ rcp) el W' ∧ Below W.heap.size W W') := by
          cases hq : VM.rightProg rs with
          | true =>
            refine ⟨0, .nilIface, breaksOf (VM.saysOf el l rs) l.length, fun W hW => bare_nil W, fun W hW => (run_by matchSays _ _ el rs l W (HSP3.out W hW) (HL.out W hW) (by rw [← HLL.out]; omega) (by omega)).mono ?_, ?_, fun v o p W hW hv hn hp => (breaks_any _ v el rs l W o p hv hn (HSP3.out W hW) hp (by rw [← HLL.out]; omega) (by omega)).mono ?_⟩
            · rintro e W' ⟨h1, hb⟩
              exact ⟨h1.1 hq, hW.call hb⟩
            · have := insides_len (VM.saysOf el l rs) l.length
              have := HLL.out
              unfold breaksOf
              split
              · simp
              · simp; omega
            · rintro e W' ⟨h1, hb⟩
              exact ⟨h1.1 hq, hW.call hb, hb⟩
          | false =>
            refine ⟨1, .iface 32 (.int .i64 1), [], fun W hW => bare_errno 1 W (HT.out W hW).1 (HT.out W hW).2, fun W hW => (run_by matchSays _ _ el rs l W (HSP3.out W hW) (HL.out W hW) (by rw [← HLL.out]; omega) (by omega)).mono ?_, by simp, fun v o p W hW hv hn hp => (breaks_any _ v el rs l W o p hv hn (HSP3.out W hW) hp (by rw [← HLL.out]; omega) (by omega)).mono ?_⟩
            · rintro e W' ⟨h1, hb⟩
              exact ⟨⟨_, h1.2 hq, ⟨none, 0, rfl, Nat.le_refl _, fun h => absurd rfl h⟩⟩, hW.call hb⟩
            · rintro e W' ⟨h1, hb⟩
              exact ⟨⟨_, h1.2 hq, ⟨none, 0, rfl, Nat.le_refl _, fun h => absurd rfl h⟩⟩, hW.call hb, hb⟩
        generalize VM.right c = qr at *
        generalize VM.rightProg rs = qp at *
        go_upto_region 5 with fail
        have hT4 : Both w (.slice sao sn scp) (.slice iao in_ icp) (.slice rao rn_ rcp) el w8.drew := H8.out.call (below_drewN (Below.refl _ _) 1)
        go_region_held3 (fun W => W.cell? ⟨w.heap.size, 0, none⟩ = some (.slice sao sn scp) ∧ W.cell? ⟨w.heap.size, 1, none⟩ = some (.slice iao in_ icp) ∧ W.cell? ⟨w.heap.size + 1, 0, none⟩ = some (.slice rao rn_ rcp) ∧ W.cell? ⟨w.heap.size + 1, 1, none⟩ = some (.bool el) ∧ Below w.heap.size w W ∧ w.heap.size + 1 < W.heap.size) (exact Both.open_ (by assumption))
          (first
            | (go_at_call 13; refine (G13.out _ ?_).mono ?_; assumption; rintro e w13 ⟨rfl, hS13⟩)
            | (go_at_call 12; refine (G12.out _ ?_).mono ?_; assumption; rintro e w12 ⟨rfl, hS12⟩)
            | (go_at_call 11; refine (G11.out _ ?_).mono ?_; assumption; rintro e w11 ⟨rfl, hS11⟩)
            | (go_at_call 10; refine (G10.out _ ?_).mono ?_; assumption; rintro e w10 ⟨rfl, hS10⟩)
            | (go_at_call 9; refine (HEV.out _ ?_).mono ?_; assumption; rintro e w9 ⟨rfl, hS9⟩))
        have H13 : Hid (Both w (.slice sao sn scp) (.slice iao in_ icp) (.slice rao rn_ rcp) el w13) := hS13
        clear hT4 hS9 hS10 hS11 hS12 hS13 G10 G11 G12 G13
        obtain ⟨k0, k1, k2, k3, -, -⟩ := H13.out
        have C14 := HK1.out w13 H13.out
        go_wp2_with fail
        refine C14.mono ?_
        rintro e w14 ⟨⟨v1, rfl, hp1⟩, hS14⟩
        have H14 : Hid (Both w (.slice sao sn scp) (.slice iao in_ icp) (.slice rao rn_ rcp) el w14) := hS14
        have HP1 : Hid (PtsAt w14.heap.size w14 v1 kk) := hp1
        clear C14 k0 k1 k2 k3 hp1 hS14
        go_upto_region 8 with fail
        have hS4 : Both w (.slice sao sn scp) (.slice iao in_ icp) (.slice rao rn_ rcp) el w14.drew := H14.out.call (below_drewN (Below.refl _ _) 1)
        have hb4 : Below w14.drew.heap.size w14.drew (w14.drew.alloc (.cells #[] 3)) := (Below.refl _ _).alloc (Nat.le_refl _) _
        have hS4a : Both w (.slice sao sn scp) (.slice iao in_ icp) (.slice rao rn_ rcp) el (w14.drew.alloc (.cells #[] 3)) := hS4.call hb4
        obtain ⟨v5, w5, hr5, ho5, hb5⟩ := append_pts w14.drew.heap.size (.slice (some ⟨w14.drew.heap.size, 0, none⟩) 0 0) (.slice lo L lc) l (w14.drew.alloc (.cells #[] 3)) (own_none w14.drew _ (Nat.le_refl _)) lo lc (by rw [← HLL.out]) HLN.out (HL.out _ hS4a) (by rw [← HLL.out]; omega) (by simp)
        have hb45 : Below w14.heap.size w14 w5 := (below_drewN (Below.refl _ _) 1).trans (hb4.trans hb5)
        have hS5 : Both w (.slice sao sn scp) (.slice iao in_ icp) (.slice rao rn_ rcp) el w5 := hS4.call (hb4.trans hb5)
        have HR5 : Hid ((Builtin.append_ #[29, 29] 29 #[.slice (some ⟨w14.drew.heap.size, 0, none⟩) 0 0, .slice lo L lc]).run Tryd.prog (w14.drew.alloc (.cells #[] 3)) = .ok v5 w5) := hr5
        obtain ⟨vo, vc, hv5, hvn⟩ := own_form ho5
        have C15 := HK2.out.2 v5 vo vc w5 hS5 hv5 hvn (pts_of_own ho5)
        have HB45 : Hid (Below w14.heap.size w14 w5) := hb45
        clear hb4 hr5 ho5 hb5 hb45 hv5 hvn
        go_region_held3 (fun W => W.cell? ⟨w.heap.size, 0, none⟩ = some (.slice sao sn scp) ∧ W.cell? ⟨w.heap.size, 1, none⟩ = some (.slice iao in_ icp) ∧ W.cell? ⟨w.heap.size + 1, 0, none⟩ = some (.slice rao rn_ rcp) ∧ W.cell? ⟨w.heap.size + 1, 1, none⟩ = some (.bool el) ∧ Below w.heap.size w W ∧ w.heap.size + 1 < W.heap.size) (exact Both.open_ (by assumption))
          (first
            | (go_at_call 15; refine C15.mono ?_; rintro e w15 ⟨⟨v2, rfl, hp2⟩, hS15, hb15⟩)
            | (refine step_append_run (by rfl) _ _ 29 (by rfl) _ _ _ _ (by rfl) (by rfl) HR5.out ?_))
        have hb1415 := HB45.out.trans (hb15.mono HB45.out.size)
        have hp1 := HP1.out.below hb1415 _ hb1415.size
        have HPP : Hid (PtsAt w15.heap.size w15 v1 kk ∧ PtsAt w15.heap.size w15 v2 kk) := ⟨hp1, hp2⟩
        have H15 : Hid (Both w (.slice sao sn scp) (.slice iao in_ icp) (.slice rao rn_ rcp) el w15) := hS15
        have C9 := HE2.out w15 hS15
        clear hS4 hS4a hS5 HR5 C15 HB45 hb15 hb1415 hp1 hp2 hS15
        go_wp2_with fail
        refine C9.mono ?_
        rintro e w16 ⟨rfl, hb16⟩
        have H16 : Hid (Both w (.slice sao sn scp) (.slice iao in_ icp) (.slice rao rn_ rcp) el w16) := H15.out.call hb16
        have C16 := sameInts_any v2 v1 kk kk w16 (HPP.out.2.below hb16 _ hb16.size) (HPP.out.1.below hb16 _ hb16.size) HK2.out.1
        rw [decide_eq_true rfl] at C16
        clear C9 hb16
        go_wp2_with fail
        refine C16.mono ?_
        rintro e w17 ⟨rfl, hb17⟩
        have H17 : Hid (Both w (.slice sao sn scp) (.slice iao in_ icp) (.slice rao rn_ rcp) el w17) := H16.out.call hb17
        clear C16 hb17
        go_wp2_with fail
        go_ret
        exact ⟨rfl, H17.out.2.2.2.2.1⟩
      · have hz1 : (40 : Int) < (L : Int) := by omega
        go_wp2_with fail
        go_ret
        exact ⟨rfl, H2.out.2.2.2.2.1⟩

end Go.Proofs.YtddjppkpgflbjaaDoor
