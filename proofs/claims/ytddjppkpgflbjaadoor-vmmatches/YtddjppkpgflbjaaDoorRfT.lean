/- vm.says: what the first rule that matches says, of each place. -/
import Derived.Test.YtddjppkpgflbjaaDoorRfS
import Derived.Test.YtddjppkpgflbjaaDoorRfP
import Derived.Test.YtddjppkpgflbjaaDoorRfO
import Derived.Test.YtddjppkpgflbjaaDoorVmX
import Derived.Test.YtddjppkpgflbjaaDoorVmZ
namespace Go.Proofs.YtddjppkpgflbjaaDoor
open Go.RowKit Go.Shelf

attribute [local go_sem] Oper.semAt_some

theorem five_of {B : Nat} {w : World} {v : Value} {rs : List VM.Ru} (h : PairsAt B w v rs) : ∃ ao cap f, v = .slice ao rs.length cap ∧ FiveAt B w ao rs.length f ∧ ∀ k (hk : k < rs.length), f.br k = rs[k].brk ∧ PairAt B w rs[k] (f.s1 k) (f.i1 k) (f.s2 k) (f.i2 k) := by
  obtain ⟨ao, cap, rfl, hc, hcell⟩ := h
  by_cases h0 : rs = []
  · subst h0
    exact ⟨ao, cap, ⟨fun _ => false, fun _ => undef, fun _ => undef, fun _ => undef, fun _ => undef⟩, rfl, fun h => absurd rfl h, fun k hk => absurd hk (by simp)⟩
  · obtain ⟨b, off, rfl, hb, hcs⟩ := hcell h0
    have h2 : ∀ k, ∃ t : Value × Value × Value × Value, ∀ hk : k < rs.length,
        (w.cell? ⟨b, off + k * 5, none⟩ = some (.bool rs[k].brk) ∧ w.cell? ⟨b, off + k * 5 + 1, none⟩ = some t.1 ∧ w.cell? ⟨b, off + k * 5 + 2, none⟩ = some t.2.1 ∧ w.cell? ⟨b, off + k * 5 + 3, none⟩ = some t.2.2.1 ∧ w.cell? ⟨b, off + k * 5 + 4, none⟩ = some t.2.2.2) ∧ PairAt B w rs[k] t.1 t.2.1 t.2.2.1 t.2.2.2 := fun k => by
      by_cases hk : k < rs.length
      · obtain ⟨sv, iv, sv2, iv2, h1, h2⟩ := hcs k hk
        exact ⟨⟨sv, iv, sv2, iv2⟩, fun _ => ⟨h1, h2⟩⟩
      · exact ⟨⟨undef, undef, undef, undef⟩, fun h => absurd h hk⟩
    obtain ⟨t, ht⟩ := Classical.skolem.1 h2
    refine ⟨_, cap, ⟨fun k => (rs[k]?.map (·.brk)).getD false, fun k => (t k).1, fun k => (t k).2.1, fun k => (t k).2.2.1, fun k => (t k).2.2.2⟩, rfl, fun _ => ⟨b, off, rfl, hb, fun k hk => ?_⟩, fun k hk => ⟨by simp [hk], (ht k hk).2⟩⟩
    have := (ht k hk).1
    simpa [hk] using this

theorem fill_bits (el : Bool) (N : Nat) : (fillV el N N).toArray = bits N (fun _ => el) := by
  unfold fillV bits
  congr 1
  apply List.ext_getElem?
  intro i
  by_cases h : i < N
  · simp [h]
  · simp [h]

set_option maxRecDepth 100000 in
/-- A row of one's own, turned round: all else is as it was. -/
theorem reverse_but (B : Nat) (v : Value) (l : List Int) (w : World) (ho : w.ownsRow B 3 1 v l.length (ptsV l)) (hl : l.length ≤ 100000) :
    Calls Tryd.prog 55 #[v] w fun e w' => e = .returned (.tuple #[]) ∧ w'.ownsRow B 3 1 v l.length (ptsV l.reverse) ∧ But (fun k => v.ownBlock = some k) w w' := by
  have hk := ho
  obtain ⟨h1, ⟨rfl, h0⟩ | ⟨g, cap, cur, rfl, hg, hh, hn, hc, hs, ht⟩⟩ := ho
  · obtain rfl : l = [] := List.eq_nil_of_length_eq_zero h0
    refine (Any.slices_Reverse_int_empty Tryd.reverseL none 0 w).mono ?_
    rintro e w' ⟨rfl, rfl⟩
    exact ⟨rfl, hk, But.refl _ _⟩
  · have hH : Sort.Holds (Value.int .i64) w g 0 l.toArray := by
      intro j hj
      have hj' : j < l.length := by simpa using hj
      have c := hk.cells (g := g) rfl j (.int .i64 l[j]) (by simp [ptsV, hj'])
      refine ⟨?_, frozen_of_row w g _ _ _ hh⟩
      rw [Addr.add_lit] at c
      rw [c]
      simp [hj']
    refine (Any.slices_Reverse_int Tryd.reverseL g 0 cap l w hH (by omega)).mono ?_
    rintro e w' ⟨rfl, n, rfl⟩
    have hsz : l.reverse.length = l.length := List.length_reverse
    have hheap : (Sort.putRow (Value.int .i64) (Sort.ahead w n) g 0 l.reverse.toArray).heap[g]? = some (.cells (Sort.putCells (Value.int .i64) 0 l.reverse.toArray cur) 3 (0, 0)) := mapBlock_heap (w := Sort.ahead w n) hh
    have hcs : (Sort.putCells (Value.int .i64) 0 l.reverse.toArray cur).size = cur.size := by simp [Sort.putCells]
    refine ⟨rfl, ⟨by simp [ptsV], .inr ⟨g, cap, _, rfl, hg, hheap, hn, hc, by rw [hcs, hs], ?_⟩⟩, ⟨rfl, rfl, rfl, by simp, fun k _ hk3 => mapBlock_other (w := Sort.ahead w n) (fun e => hk3 (by rw [e]; rfl))⟩⟩
    rw [Nat.mul_one, ← hsz]
    exact putCells_take (by rw [hsz, hs]; omega)

section
variable {β : Type} {B b : Nat}

theorem calm_block (k : Nat) (cs : β → Array Value) (t : TypeId) (hk : k ≠ B) : RF.Calm B b (fun (s : β) W => W.heap[k]? = some (.cells (cs s) t (0, 0))) := by
  intro s A A' row hs hg hr
  refine (hg.block k (Array.getElem?_eq_some_iff.1 hs).1 fun e => ?_).trans hs
  rcases hr k e.symm with h | ⟨_, o, ho, hc⟩
  · exact hk h
  · rw [hs] at ho; cases ho; cases hc

theorem calm_below {n₀ : Nat} {w : World} (hn : n₀ ≤ w.heap.size) (hB : n₀ ≤ B) (hb : n₀ ≤ b) : RF.Calm B b (fun (_ : β) W => Below n₀ w W) := by
  intro s A A' row hs hg hr
  refine hs.grown hg (Nat.le_trans hn hs.size) fun k e => ?_
  rcases hr k e with h | ⟨h, _⟩ <;> omega

theorem calm_own {base L : Nat} {tv : Value} {xs : List Value} (hB : ∀ g, tv.ownBlock = some g → g ≠ B) : RF.Calm B b (fun (_ : β) W => W.ownsRow base 3 1 tv L xs) := by
  intro s A A' row hs hg hr
  refine hs.kept hg ?_
  rcases hs.2 with ⟨rfl, _⟩ | ⟨g, cap, cur, rfl, hge, hgb, _⟩
  · exact .inl rfl
  · refine .inr fun e' => ?_
    rcases hr g (by simpa [Value.ownBlock] using e'.symm) with h | ⟨_, o, ho, hc⟩
    · exact hB g rfl h
    · rw [hgb] at ho; cases ho; cases hc

end

/-- Between two rounds. -/
def PI (n₀ b6 b7 g : Nat) (w : World) (lv tv : Value) (L R : Nat) (l : List Int) (el : Bool) (rs : List VM.Ru) (pre : List Nat) (W : World) : Prop :=
  W.heap[n₀ + 1]? = some (.cells #[lv] 29 (0, 0)) ∧ W.heap[n₀ + 2]? = some (.cells #[.int .i64 (L : Nat)] 3 (0, 0)) ∧ W.heap[b6]? = some (.cells #[tv] 29 (0, 0)) ∧ W.heap[b7]? = some (.cells #[.slice (some ⟨g, 0, none⟩) (L + 1) (L + 1)] 75 (0, 0)) ∧
    W.heap[g]? = some (.cells (bits (L + 1) fun i => VM.say el l i (rs.drop (R - pre.length))) 4 (0, 0)) ∧ W.ownsRow (n₀ + 3) 3 1 tv L (ptsV l.reverse) ∧ Below n₀ w W ∧ b7 + 2 ≤ W.heap.size

theorem PI_calm {n₀ b6 b7 g B b : Nat} {w : World} {lv tv : Value} {L R : Nat} {l : List Int} {el : Bool} {rs : List VM.Ru} (hn : n₀ ≤ w.heap.size) (hB : n₀ + 3 ≤ B) (hb : n₀ ≤ b) (h6 : b6 ≠ B) (h7 : b7 ≠ B) (hg : g ≠ B) (ht : ∀ k, tv.ownBlock = some k → k ≠ B) :
    RF.Calm B b (PI n₀ b6 b7 g w lv tv L R l el rs) :=
  (calm_block _ (fun _ => _) _ (by omega)).and ((calm_block _ (fun _ => _) _ (by omega)).and ((calm_block _ (fun _ => _) _ h6).and ((calm_block _ (fun _ => _) _ h7).and ((calm_block g (fun pre : List Nat => bits (L + 1) fun i => VM.say el l i (rs.drop (R - pre.length))) _ hg).and ((calm_own ht).and ((calm_below hn (by omega) hb).and (fun _ _ _ _ hs hg _ => Nat.le_trans hs hg.size)))))))

/-- A round's own variables. -/
def PA (n₀ b6 b7 g e6 : Nat) (ao lo tao : Option Addr) (R cap L lcap tcp : Nat) (el : Bool) (f : Five) (x : Nat) (a : Act) (W : World) : Prop :=
  ∃ bx, b7 + 2 ≤ bx ∧ W.heap[bx]? = some (.cells #[.bool (f.br x), f.s1 x, f.i1 x, f.s2 x, f.i2 x] 57 (0, 0)) ∧
    a = { tmps := #[.agg #[.slice ao R cap, .bool el], .slice lo L lcap, .pointer (some ⟨n₀, 0, none⟩), .pointer (some ⟨n₀ + 1, 0, none⟩), .slice none 0 0, .pointer (some ⟨n₀ + 1 + 1, 0, none⟩), .pointer (some ⟨b6, 0, none⟩), .pointer (some ⟨b7, 0, none⟩), undef, .pointer (some ⟨bx, 0, none⟩), undef, undef, undef, .slice lo L lcap, .int .i64 (L : Int), .slice lo L lcap, .slice tao L tcp, .slice tao L tcp, .tuple #[], .pointer (some ⟨n₀, 1, none⟩), .bool el, .slice (some ⟨e6, 0, none⟩) 1 1, .int .i64 (L : Int), .int .i64 ((L : Int) + 1), .slice (some ⟨g, 0, none⟩) (L + 1) (L + 1), .pointer (some ⟨n₀, 0, none⟩), .slice ao R cap, .func (.func 67) #[] #[.pointer (some ⟨b7 + 1, 0, none⟩)], .int .i64 (x : Int), f.pair x, undef, undef, undef, undef, undef, undef, undef, undef, undef, undef, undef, undef, undef, undef, undef, undef, undef, undef, undef, undef, undef, undef, undef, undef, undef, undef, undef, undef, undef, undef, undef, undef], defers := [] }

theorem PA_calm {n₀ b6 b7 g e6 b : Nat} {ao lo tao : Option Addr} {R cap L lcap tcp : Nat} {el : Bool} {f : Five} (a : Act) : RF.Calm (b7 + 1) b (fun x W => PA n₀ b6 b7 g e6 ao lo tao R cap L lcap tcp el f x a W) := by
  rintro x A A' row ⟨bx, h1, h2, h3⟩ hg hr
  exact ⟨bx, h1, calm_block (β := Unit) bx (fun _ => _) _ (by omega) () A A' row h2 hg hr, h3⟩

set_option maxHeartbeats 1000000 in
set_option maxRecDepth 100000 in
theorem says_any (rv lv : Value) (el : Bool) (rs : List VM.Ru) (l : List Int) (w : World) (lo : Option Addr) (lcap : Nat) (hlv : lv = .slice lo l.length lcap) (hln : lo = none → lcap = 0) (hR : PairsAt w.heap.size w rv rs) (hl : PtsAt w.heap.size w lv l) (hn : l.length ≤ 500) (hrs : rs.length ≤ 100000) (hr : ∀ r ∈ rs, VM.right r.before = true ∧ VM.right r.after = true) :
    Calls Tryd.prog 38 #[.agg #[rv, .bool el], lv] w fun e w' => (∃ v, e = .returned v ∧ FlagsAt w'.heap.size w' v (VM.saysOf el l rs)) ∧ Below w.heap.size w w' := by
  obtain ⟨ao, cap, f, hrv, hF, hP⟩ := five_of hR
  obtain ⟨W3, hW3⟩ : ∃ W3, W3 = ((w.alloc (.cells #[rv, .bool el] 28)).alloc (.cells #[lv] 29)).alloc (.cells #[.int .i64 (l.length : Nat)] 3) := ⟨_, rfl⟩
  have hb3 : Below w.heap.size w W3 := by rw [hW3]; exact (((Below.refl _ w).alloc (Nat.le_refl _) _).alloc (by simp) _).alloc (by simp; omega) _
  have hs3 : W3.heap.size = w.heap.size + 3 := by rw [hW3]; simp
  have C1 := clone_any lv l W3 lo lcap hlv hln (hl.below hb3 _ hb3.size) (by omega)
  obtain ⟨L, hL⟩ : ∃ L, L = l.length := ⟨_, rfl⟩
  obtain ⟨R, hRR⟩ : ∃ R, R = rs.length := ⟨_, rfl⟩
  have HL : Hid (L = l.length) := hL
  have HRR : Hid (R = rs.length) := hRR
  have hbA : Below (w.alloc (.cells #[rv, .bool el] 28)).heap.size (w.alloc (.cells #[rv, .bool el] 28)) W3 := by rw [hW3]; exact ((Below.refl _ _).alloc (Nat.le_refl _) _).alloc (by simp) _
  have hbB : Below ((w.alloc (.cells #[rv, .bool el] 28)).alloc (.cells #[lv] 29)).heap.size ((w.alloc (.cells #[rv, .bool el] 28)).alloc (.cells #[lv] 29)) W3 := by rw [hW3]; exact (Below.refl _ _).alloc (Nat.le_refl _) _
  have g0 : W3.heap[w.heap.size]? = some (.cells #[rv, .bool el] 28 (0, 0)) := (hbA.block _ (by simp)).trans (heap_alloc_new _ _)
  have g1 : W3.heap[w.heap.size + 1]? = some (.cells #[lv] 29 (0, 0)) := by
    refine (hbB.block _ (by simp)).trans ?_
    have := heap_alloc_new (w.alloc (.cells #[rv, .bool el] 28)) (.cells #[lv] 29)
    simpa using this
  clear hbA hbB
  have g2 : W3.heap[w.heap.size + 2]? = some (.cells #[.int .i64 (l.length : Nat)] 3 (0, 0)) := by
    rw [hW3]
    have := heap_alloc_new ((w.alloc (.cells #[rv, .bool el] 28)).alloc (.cells #[lv] 29)) (.cells #[.int .i64 (l.length : Nat)] 3)
    simpa using this
  rw [← hL] at hlv hn g2 hW3
  rw [← hRR] at hrv hrs hF
  clear hL hRR hR
  subst hrv hlv
  have HW3 : Hid _ := hW3
  have HS3 : Hid (W3.heap.size = w.heap.size + 3) := hs3
  clear hW3
  refine (callsIn_wide (n := 9)).1 ?_
  refine callsIn_of_wp_marks Tryd.func38 rfl trivial ?_ rfl
  simp only [Tryd.ntmps38, List.size_toArray, List.length_cons, List.length_nil, Nat.reduceAdd, Nat.reduceSub, Array.replicate_succ, Array.replicate_zero, List.push_toArray, List.append_toArray, List.nil_append, List.cons_append]
  gi_wp2_with fail
  rw [← HW3.out]
  refine ⟨trivial, (callsIn_wide.2 C1).mono ?_⟩
  rintro e w4 ⟨⟨tv, rfl, ho4⟩, hb4⟩
  obtain ⟨tao, tcp, rfl⟩ := own_slice ho4
  obtain ⟨w5, hw5⟩ : ∃ w5, w5 = w4.alloc (.cells #[.slice tao l.length tcp] 29) := ⟨_, rfl⟩
  have HW5 : Hid (w5 = w4.alloc (.cells #[.slice tao l.length tcp] 29)) := hw5
  have hb5 : Below W3.heap.size W3 w5 := by rw [hw5]; exact hb4.alloc hb4.size _
  have bn5 : But (fun _ => False) w4 w5 := by rw [hw5]; exact (But.refl _ _).alloc _
  have ho5 := own_but ho4 bn5 (fun _ _ => id)
  have q6 : w5.heap[w4.heap.size]? = some (.cells #[.slice tao l.length tcp] 29 (0, 0)) := by rw [hw5]; exact heap_alloc_new _ _
  have C2 := reverse_but W3.heap.size _ l w5 ho5 (by rw [← HL.out]; omega)
  have hv5 : ∀ g, (Value.slice tao l.length tcp).ownBlock = some g → W3.heap.size ≤ g ∧ g < w4.heap.size := fun g hg => by
    obtain ⟨h1, cur, h2⟩ := own_block ho4 hg
    exact ⟨h1, lt_of_block h2⟩
  have p0 : w5.heap[w.heap.size]? = some (.cells #[.slice ao R cap, .bool el] 28 (0, 0)) := (hb5.block _ (by omega)).trans g0
  have p1 : w5.heap[w.heap.size + 1]? = some (.cells #[.slice lo L lcap] 29 (0, 0)) := (hb5.block _ (by omega)).trans g1
  have p2 : w5.heap[w.heap.size + 2]? = some (.cells #[.int .i64 (L : Nat)] 3 (0, 0)) := (hb5.block _ (by omega)).trans g2
  have hs4 : w.heap.size + 3 ≤ w4.heap.size := by have := hb4.size; omega
  have HS4 : Hid (w.heap.size + 3 ≤ w4.heap.size) := hs4
  have hs5 : w5.heap.size = w4.heap.size + 1 := by rw [hw5]; simp
  have hb35 : Below w.heap.size w w5 := hb3.trans (hb5.mono (by omega))
  rw [← HL.out] at C2 hv5 q6 HW5 ⊢
  clear C1 g0 g1 g2 hb5 bn5 ho4 ho5 hb4 hw5 hb3
  gi_wp2_with fail
  rw [← HW5.out]
  refine ⟨trivial, (callsIn_wide.2 C2).mono ?_⟩
  rintro e w6 ⟨rfl, ho6, hb6⟩
  have hs6 := hb6.size
  have r0 : w6.heap[w.heap.size]? = some (.cells #[.slice ao R cap, .bool el] 28 (0, 0)) := (hb6.block _ (by omega) (fun e => by have := hv5 _ e; omega)).trans p0
  have r1 : w6.heap[w.heap.size + 1]? = some (.cells #[.slice lo L lcap] 29 (0, 0)) := (hb6.block _ (by omega) (fun e => by have := hv5 _ e; omega)).trans p1
  have r2 : w6.heap[w.heap.size + 2]? = some (.cells #[.int .i64 (L : Nat)] 3 (0, 0)) := (hb6.block _ (by omega) (fun e => by have := hv5 _ e; omega)).trans p2
  have r6 : w6.heap[w4.heap.size]? = some (.cells #[.slice tao L tcp] 29 (0, 0)) := (hb6.block _ (by omega) (fun e => by have := hv5 _ e; omega)).trans q6
  have hb36 : Below w.heap.size w w6 := hb35.trans (hb6.below (by omega) (fun j hj => by have := hv5 _ hj; omega))
  have HV5 : Hid (∀ g, (Value.slice tao L tcp).ownBlock = some g → W3.heap.size ≤ g ∧ g < w4.heap.size) := hv5
  have bn7 : Below w6.heap.size w6 (w6.alloc (.cells #[.bool el] 4)) := (Below.refl _ _).alloc (Nat.le_refl _) _
  have C3 := repeat_any el (L + 1) (by omega) (by omega) w6.heap.size 1 (w6.alloc (.cells #[.bool el] 4)) (by simp)
  rw [Int.natCast_add, show ((1 : Nat) : Int) = 1 from rfl] at C3
  have HB7 : Hid (Below w6.heap.size w6 (w6.alloc (.cells #[.bool el] 4))) := bn7
  have HS7 : Hid ((w6.alloc (.cells #[.bool el] 4)).heap.size = w6.heap.size + 1) := by show _ = _; simp
  have c2 := (World.cell?_of_block (w := w6) (a := ⟨w.heap.size + 2, 0, none⟩) (bn7.block _ (by exact lt_of_block r2))).trans (cell_of_row _ _ 0 _ _ _ r2)
  have c1 := cell_of_row _ _ 1 _ _ _ r0
  simp only [List.getElem?_toArray, List.getElem?_cons_zero, List.getElem?_cons_succ] at c1 c2
  clear C2 p0 p1 p2 q6 hv5 hb35 hb6 bn7
  gi_wp2_with fail
  refine ⟨trivial, (callsIn_wide.2 C3).mono ?_⟩
  rintro e w8 ⟨⟨g, rfl, hgl, hgc⟩, hb8⟩
  rw [fill_bits] at hgc
  have hs7 := HS7.out
  have hb68 : Below w6.heap.size w6 w8 := HB7.out.trans (hb8.mono (by omega))
  have hs8 := hb8.size
  have hglt := lt_of_block hgc
  obtain ⟨w0, hw0⟩ : ∃ w0, w0 = (w8.alloc (.cells #[.slice (some ⟨g, 0, none⟩) (L + 1) (L + 1)] 75)).alloc (.cells #[.slice ao R cap] 26) := ⟨_, rfl⟩
  have HW0 : Hid (w0 = (w8.alloc (.cells #[.slice (some ⟨g, 0, none⟩) (L + 1) (L + 1)] 75)).alloc (.cells #[.slice ao R cap] 26)) := hw0
  have hb80 : Below w8.heap.size w8 w0 := by rw [hw0]; exact ((Below.refl _ _).alloc (Nat.le_refl _) _).alloc (by simp) _
  have hb60 : Below w6.heap.size w6 w0 := hb68.trans (hb80.mono (by omega))
  have hs0 : w0.heap.size = w8.heap.size + 2 := by rw [hw0]; simp
  have z7 : w0.heap[w8.heap.size]? = some (.cells #[.slice (some ⟨g, 0, none⟩) (L + 1) (L + 1)] 75 (0, 0)) := by
    rw [hw0]
    have b1 : Below (w8.alloc (.cells #[.slice (some ⟨g, 0, none⟩) (L + 1) (L + 1)] 75)).heap.size (w8.alloc (.cells #[.slice (some ⟨g, 0, none⟩) (L + 1) (L + 1)] 75)) ((w8.alloc (.cells #[.slice (some ⟨g, 0, none⟩) (L + 1) (L + 1)] 75)).alloc (.cells #[.slice ao R cap] 26)) := (Below.refl _ _).alloc (Nat.le_refl _) _
    exact (b1.block _ (by simp)).trans (heap_alloc_new _ _)
  have zB : Boxed w0 (w8.heap.size + 1) 26 (.slice ao R cap) := by
    rw [hw0]
    have := Boxed.new (w8.alloc (.cells #[.slice (some ⟨g, 0, none⟩) (L + 1) (L + 1)] 75)) 26 (.slice ao R cap)
    simpa using this
  have z1 : w0.heap[w.heap.size + 1]? = some (.cells #[.slice lo L lcap] 29 (0, 0)) := (hb60.block _ (by omega)).trans r1
  have z2 : w0.heap[w.heap.size + 2]? = some (.cells #[.int .i64 (L : Nat)] 3 (0, 0)) := (hb60.block _ (by omega)).trans r2
  have z6 : w0.heap[w4.heap.size]? = some (.cells #[.slice tao L tcp] 29 (0, 0)) := (hb60.block _ (by omega)).trans r6
  have zg : w0.heap[g]? = some (.cells (bits (L + 1) fun _ => el) 4 (0, 0)) := (hb80.block _ hglt).trans hgc
  have zo := own_but ho6 (But.of_below hb60 (fun _ => False)) (fun _ _ => id)
  have hbw0 : Below w.heap.size w w0 := hb36.trans (hb60.mono (by omega))
  have y0 : (w8.alloc (.cells #[.slice (some ⟨g, 0, none⟩) (L + 1) (L + 1)] 75)).cell? ⟨w.heap.size, 0, none⟩ = some (.slice ao R cap) := by
    have b1 : Below w6.heap.size w6 (w8.alloc (.cells #[.slice (some ⟨g, 0, none⟩) (L + 1) (L + 1)] 75)) := hb68.alloc hb68.size _
    have := cell_of_row _ _ 0 _ _ _ r0
    exact (b1.cell (p := ⟨w.heap.size, 0, none⟩) (by exact lt_of_block r0)).trans this
  have C4 := backward_any ao R cap (w8.alloc (.cells #[.slice (some ⟨g, 0, none⟩) (L + 1) (L + 1)] 75))
  have hs9 : (w8.alloc (.cells #[.slice (some ⟨g, 0, none⟩) (L + 1) (L + 1)] 75)).heap.size = w8.heap.size + 1 := by simp
  rw [hs9] at C4
  clear C3 c1 c2 hb8 hb68 hb80 hb60 hgc r0 r1 r2 r6 ho6 hb36 HB7 HS7 hs7 hs9 hw0
  gi_wp2_with fail
  refine ⟨trivial, (callsIn_wide.2 C4).mono ?_⟩
  rintro e w9 ⟨rfl, hw9⟩
  rw [← HW0.out] at hw9
  rw [hw9]
  clear C4 hw9 y0
  gi_wp2_with fail
  have HFF : Hid (FiveAt w.heap.size w ao R f) := hF
  have HLW : Hid (PtsAt w.heap.size w (.slice lo L lcap) l) := hl
  have HPP : Hid (∀ k (hk : k < rs.length), f.br k = rs[k].brk ∧ PairAt w.heap.size w rs[k] (f.s1 k) (f.i1 k) (f.s2 k) (f.i2 k)) := hP
  have HRI : Hid (∀ r ∈ rs, VM.right r.before = true ∧ VM.right r.after = true) := hr
  have hal : (w6.alloc (.cells #[.bool el] 4)).heap.size = w6.heap.size + 1 := by simp
  rw [hs3] at HV5 zo
  rw [hal] at hgl hs8
  have hF0 := hF.below hbw0
  have hB1 : w.heap.size + 3 ≤ w8.heap.size + 1 := by omega
  have hg7 : g < w8.heap.size := hglt
  have h67 : w4.heap.size < w8.heap.size := by omega
  have hgl3 : w.heap.size + 3 ≤ g := by omega
  have h6g : w4.heap.size < g := by omega
  clear hF hl hP hr hal hgl hs8 hs6 hs5 HW5 HW3 HW0 hglt HS3 HS4 hln
  generalize w4.heap.size = b6 at *
  generalize w8.heap.size = b7 at *
  generalize w6.heap.size = e6 at *
  refine RF.rangeFunc (gf := 67) (lb := #[.pointer (some ⟨b7 + 1, 0, none⟩)]) rfl (enters_of Tryd.func67 (by kernel_rfl) rfl) (by omega) (encs := encP f) (fun _ => rfl) (b7 + 1) (by omega)
    (back_walks (9 - 1) w.heap.size (b7 + 1) R cap ao f (by omega) hrs w0 hbw0.size zB hF0) (fun h k => ⟨h.1.trans k.1, k.2.trans h.2⟩)
    (fun W l o hl => ⟨⟨rfl, rfl, rfl, by simp, fun k hk => World.putObj_heap_other (by omega)⟩, World.putObj_heap_other (by omega)⟩)
    (PI w.heap.size b6 b7 g w (.slice lo L lcap) (.slice tao L tcp) L R l el rs) (fun _ => False) (PI_calm (Nat.le_refl _) hB1 (by omega) (by omega) (by omega) (by omega) (fun k hk => by have := HV5.out k hk; omega)) (fun _ _ _ _ h _ _ => h) ?start
    (PA w.heap.size b6 b7 g e6 ao lo tao R cap L lcap tcp el f) (fun a' => PA_calm a') ?assign ?body ?done ?stop
  case start =>
    refine ⟨z1, z2, z6, z7, ?_, zo, hbw0, by omega⟩
    rw [zg]
    rw [bits_congr (g := fun i => VM.say el l i (rs.drop (R - ([] : List Nat).length))) (fun k _ => by
      rw [List.length_nil, Nat.sub_zero, HRR.out, List.drop_of_length_le (Nat.le_refl _)]
      rfl)]
  case stop =>
    intro W h _
    exact h.elim
  case done =>
    intro xs W hS hi hK
    obtain ⟨y1, y2, y6, y7, yg, yo, hB, hsz⟩ := hi
    rw [hS, Nat.sub_self, List.drop_zero] at yg
    have c7 := cell_of_row _ _ 0 _ _ _ y7
    simp only [List.getElem?_toArray, List.getElem?_cons_zero] at c7
    have hgD : g ≠ w0.heap.size := by omega
    have hsb := hB.size
    have R1 : Hid (FlagsAt (W.putObj w0.heap.size (.deferred none)).heap.size (W.putObj w0.heap.size (.deferred none)) (.slice (some ⟨g, 0, none⟩) (L + 1) (L + 1)) (VM.saysOf el l rs)) := by
      have hlen : (VM.saysOf el l rs).length = L + 1 := by rw [HL.out]; simp [VM.saysOf]
      refine ⟨some ⟨g, 0, none⟩, L + 1, by rw [hlen], by rw [hlen]; exact Nat.le_refl _, fun _ => ⟨g, 0, rfl, ?_, fun k hk => ?_⟩⟩
      · have := lt_of_block yg
        simpa using this
      · rw [World.cell?_of_block (w := W) (a := ⟨g, 0 + k, none⟩) (World.putObj_heap_other hgD), Nat.zero_add, cell_of_row _ _ k _ _ _ yg, bits_get (by rw [← hlen]; exact hk)]
        simp [VM.saysOf]
    have R2 : Hid (Below w.heap.size w (W.putObj w0.heap.size (.deferred none))) := hB.grown (grownBy_putObj' _ _ _) hsb (fun k e => by cases e; omega)
    clear y1 y2 y6 y7 yg yo hB z1 z2 z6 z7 zg zo zB hbw0 hF0
    gi_wp2
    refine ⟨by simp, .inl ⟨_, _, rfl, run_takeDeferred hK, ?_⟩⟩
    exact ⟨_, results_tmp (t := 4) rfl _ _ _, ⟨_, rfl, R1.out⟩, R2.out⟩
  case assign =>
    intro l' pre x W K hi hy hK
    have hxr : x < rs.length := by
      have h1 : x + 1 + pre.length = R := hy
      rw [← HRR.out]; omega
    obtain ⟨⟨a1, n1, p1, e1⟩, a2, n2, p2, e2⟩ := (HPP.out x hxr).2.before.slices
    obtain ⟨⟨a3, n3, p3, e3⟩, a4, n4, p4, e4⟩ := (HPP.out x hxr).2.after.slices
    have hsz := hi.2.2.2.2.2.2.2
    have HI : Hid (PI w.heap.size b6 b7 g w (.slice lo L lcap) (.slice tao L tcp) L R l el rs pre (W.alloc (.cells #[.bool (f.br x), .slice a1 n1 p1, .slice a2 n2 p2, .slice a3 n3 p3, .slice a4 n4 p4] 57))) :=
      (PI_calm (B := b7 + 1) (b := w0.heap.size) (Nat.le_refl _) hB1 (by omega) (by omega) (by omega) (by omega) (fun k hk => by have := HV5.out k hk; omega)).alloc _ hi
    have HSZ : Hid (b7 + 2 ≤ W.heap.size) := hsz
    have hBW := hi.2.2.2.2.2.2.1.size
    clear hi
    clear z1 z2 z6 z7 zg zo zB hbw0 hF0
    unfold encP Five.pair
    have HE : Hid (f.s1 x = .slice a1 n1 p1 ∧ f.i1 x = .slice a2 n2 p2 ∧ f.s2 x = .slice a3 n3 p3 ∧ f.i2 x = .slice a4 n4 p4) := ⟨e1, e2, e3, e4⟩
    rw [e1, e2, e3, e4]
    clear e1 e2 e3 e4
    gi_wp2
    refine hK _ _ ((KeepsOthers.alloc _ _).from _) ⟨(Below.refl _ W).alloc (by omega) _, Below.heap_alloc W _ _ (by omega)⟩ HI.out ⟨W.heap.size, HSZ.out, ?_, ?_⟩
    · rw [HE.out.1, HE.out.2.1, HE.out.2.2.1, HE.out.2.2.2]
      exact heap_alloc_new W _
    · unfold Five.pair
      rw [HE.out.1, HE.out.2.1, HE.out.2.2.1, HE.out.2.2.2]
  case body =>
    intro l' pre x a' W hi hax hy
    obtain ⟨y1, y2, y6, y7, yg, yo, hB, hsz⟩ := hi
    obtain ⟨bx, hbx, hr, rfl⟩ := hax
    have hxp : x + 1 + pre.length = R := hy
    have hxr : x < rs.length := by rw [← HRR.out]; omega
    have hxm := List.getElem_mem hxr
    obtain ⟨hbr, hpa⟩ := HPP.out x hxr
    have hsb := hB.size
    have hyo : PtsAt W.heap.size W (.slice tao L tcp) l.reverse := by
      have e : L = l.reverse.length := by rw [List.length_reverse]; exact HL.out
      refine pts_of_own (B := w.heap.size + 3) ?_
      rw [← e]
      exact yo
    have HC1 : Hid (∀ W', Below W.heap.size W W' → Calls Tryd.prog 58 #[.agg #[f.s1 x, f.i1 x], .slice tao L tcp] W' fun e w' => ∃ o, e = .returned (.slice (some ⟨o, 0, none⟩) (L + 1) (L + 1)) ∧ W'.heap.size ≤ o ∧ w'.heap[o]? = some (.cells (bits (L + 1) (fun k => (VM.run rs[x].before (l.reverse.drop k) [0]).1)) 4 (0, 0)) ∧ Below W'.heap.size W' w') := fun W' hW' => by
      have hbw := hB.trans (hW'.mono hsb)
      have hp := hpa.before.below hbw _ hbw.size
      have := matching_any (f.s1 x) (f.i1 x) (.slice tao L tcp) rs[x].before l.reverse W' ⟨(HRI.out _ hxm).1, hp.code, hyo.below hW' _ hW'.size, ⟨hp.lens.1, hp.lens.2.1, by rw [List.length_reverse, ← HL.out]; omega, hp.lens.2.2⟩⟩
      rw [List.length_reverse, ← HL.out] at this
      exact this
    have HC2 : Hid (∀ W', Below W.heap.size W W' → Calls Tryd.prog 58 #[.agg #[f.s2 x, f.i2 x], .slice lo L lcap] W' fun e w' => ∃ o, e = .returned (.slice (some ⟨o, 0, none⟩) (L + 1) (L + 1)) ∧ W'.heap.size ≤ o ∧ w'.heap[o]? = some (.cells (bits (L + 1) (fun k => (VM.run rs[x].after (l.drop k) [0]).1)) 4 (0, 0)) ∧ Below W'.heap.size W' w') := fun W' hW' => by
      have hbw := hB.trans (hW'.mono hsb)
      have hp := hpa.after.below hbw _ hbw.size
      have := matching_any (f.s2 x) (f.i2 x) (.slice lo L lcap) rs[x].after l W' ⟨(HRI.out _ hxm).2, hp.code, HLW.out.below hbw _ hbw.size, ⟨hp.lens.1, hp.lens.2.1, by rw [← HL.out]; omega, hp.lens.2.2⟩⟩
      rw [← HL.out] at this
      exact this
    have HSS : Hid (∀ W', Below W.heap.size W W' → W'.cell? ⟨bx, 1, none⟩ = some (f.s1 x) ∧ W'.cell? ⟨bx, 2, none⟩ = some (f.i1 x) ∧ W'.cell? ⟨bx, 3, none⟩ = some (f.s2 x) ∧ W'.cell? ⟨bx, 4, none⟩ = some (f.i2 x) ∧ W'.cell? ⟨b6, 0, none⟩ = some (.slice tao L tcp) ∧ W'.cell? ⟨w.heap.size + 1, 0, none⟩ = some (.slice lo L lcap) ∧ Below W.heap.size W W') := fun W' hW' =>
      ⟨(hW'.cell (by exact lt_of_block hr)).trans (cell_of_row _ _ 1 _ _ _ hr), (hW'.cell (by exact lt_of_block hr)).trans (cell_of_row _ _ 2 _ _ _ hr), (hW'.cell (by exact lt_of_block hr)).trans (cell_of_row _ _ 3 _ _ _ hr), (hW'.cell (by exact lt_of_block hr)).trans (cell_of_row _ _ 4 _ _ _ hr), (hW'.cell (by exact lt_of_block y6)).trans (cell_of_row _ _ 0 _ _ _ y6), (hW'.cell (by exact lt_of_block y1)).trans (cell_of_row _ _ 0 _ _ _ y1), hW'⟩
    have H2 : Hid (W.heap[w.heap.size + 2]? = some (.cells #[.int .i64 (L : Nat)] 3 (0, 0))) := y2
    have H7 : Hid (W.heap[b7]? = some (.cells #[.slice (some ⟨g, 0, none⟩) (L + 1) (L + 1)] 75 (0, 0))) := y7
    have HG : Hid (W.heap[g]? = some (.cells (bits (L + 1) fun i => VM.say el l i (rs.drop (R - pre.length))) 4 (0, 0))) := yg
    have HX : Hid (W.heap[bx]? = some (.cells #[.bool (f.br x), f.s1 x, f.i1 x, f.s2 x, f.i2 x] 57 (0, 0))) := hr
    have HI1 : Hid _ := y1
    have HI6 : Hid _ := y6
    have HO : Hid _ := yo
    have HBB : Hid (Below w.heap.size w W) := hB
    have HBR : Hid (f.br x = rs[x].brk) := hbr
    clear y1 y2 y6 y7 yg yo hB hr hpa hyo hxm z1 z2 z6 z7 zg zo zB hbw0 hF0 hbr
    gi_wp2_with fail
    refine RF.region_held_round (S := (fun W' => W'.cell? ⟨bx, 1, none⟩ = some (f.s1 x) ∧ W'.cell? ⟨bx, 2, none⟩ = some (f.i1 x) ∧ W'.cell? ⟨bx, 3, none⟩ = some (f.s2 x) ∧ W'.cell? ⟨bx, 4, none⟩ = some (f.i2 x) ∧ W'.cell? ⟨b6, 0, none⟩ = some (.slice tao L tcp) ∧ W'.cell? ⟨w.heap.size + 1, 0, none⟩ = some (.slice lo L lcap) ∧ Below W.heap.size W W')) (by kernel_rfl) (by kernel_rfl) (fun h => h.elim fun _ h => h.elim fun _ h => h) (HSS.out _ (below_drewN (Below.refl _ _) 1)) (fun hHeld => ?_)
    refine wpAnyH_take (i := 0) (oi := { dst := some 30, op := Op.fieldAddr 57 (Operand.tmp 9) 1, type := 0, pos := "places.go:17", after := #[], guard := none }) (v := ?vv1) rfl (by kernel_rfl) (by kernel_rfl) (by kernel_rfl) (fun _ _ _ h => h) (Or.inl ⟨by rfl, ?hy1⟩) (by assumption) ?rest1
    case hy1 => (intro w hSw; (try dsimp only at hSw); go_simp) <;> try with_reducible rfl
    try simp only [Act.put, List.setIfInBounds_toArray, List.set_cons_zero, List.set_cons_succ]
    refine wpAnyH_take (i := 1) (oi := { dst := some 31, op := Op.load 25 (Operand.tmp 30), type := 25, pos := "places.go:17", after := #[{ on := 0, ground := Ground.data }], guard := none }) (v := ?vv2) rfl (by kernel_rfl) (by kernel_rfl) (by kernel_rfl) (fun _ _ _ h => h) (Or.inl ⟨by rfl, ?hy2⟩) (by assumption) ?rest2
    case hy2 => (intro w hSw; (try dsimp only at hSw); go_simp) <;> try with_reducible rfl
    try simp only [Act.put, List.setIfInBounds_toArray, List.set_cons_zero, List.set_cons_succ]
    refine wpAnyH_take (i := 2) (oi := { dst := some 32, op := Op.load 29 (Operand.tmp 6), type := 29, pos := "places.go:17", after := #[], guard := none }) (v := ?vv3) rfl (by kernel_rfl) (by kernel_rfl) (by kernel_rfl) (fun _ _ _ h => h) (Or.inl ⟨by rfl, ?hy3⟩) (by assumption) ?rest3
    case hy3 => (intro w hSw; (try dsimp only at hSw); go_simp) <;> try with_reducible rfl
    try simp only [Act.put, List.setIfInBounds_toArray, List.set_cons_zero, List.set_cons_succ]
    refine wpAnyH_take (i := 4) (oi := { dst := some 34, op := Op.fieldAddr 57 (Operand.tmp 9) 2, type := 0, pos := "places.go:17", after := #[], guard := none }) (v := ?vv4) rfl (by kernel_rfl) (by kernel_rfl) (by kernel_rfl) (fun _ _ _ h => h) (Or.inl ⟨by rfl, ?hy4⟩) (by assumption) ?rest4
    case hy4 => (intro w hSw; (try dsimp only at hSw); go_simp) <;> try with_reducible rfl
    try simp only [Act.put, List.setIfInBounds_toArray, List.set_cons_zero, List.set_cons_succ]
    refine wpAnyH_take (i := 5) (oi := { dst := some 35, op := Op.load 25 (Operand.tmp 34), type := 25, pos := "places.go:17", after := #[{ on := 4, ground := Ground.data }], guard := none }) (v := ?vv5) rfl (by kernel_rfl) (by kernel_rfl) (by kernel_rfl) (fun _ _ _ h => h) (Or.inl ⟨by rfl, ?hy5⟩) (by assumption) ?rest5
    case hy5 => (intro w hSw; (try dsimp only at hSw); go_simp) <;> try with_reducible rfl
    try simp only [Act.put, List.setIfInBounds_toArray, List.set_cons_zero, List.set_cons_succ]
    refine wpAnyH_take (i := 6) (oi := { dst := some 36, op := Op.load 29 (Operand.tmp 3), type := 29, pos := "places.go:17", after := #[], guard := none }) (v := ?vv6) rfl (by kernel_rfl) (by kernel_rfl) (by kernel_rfl) (fun _ _ _ h => h) (Or.inl ⟨by rfl, ?hy6⟩) (by assumption) ?rest6
    case hy6 => (intro w hSw; (try dsimp only at hSw); go_simp) <;> try with_reducible rfl
    try simp only [Act.put, List.setIfInBounds_toArray, List.set_cons_zero, List.set_cons_succ]
    refine wpAnyH_ready (rs := [3]) (by kernel_rfl) (by simp) ?_
    refine AllReadyH.cons (o := { dst := some 33, op := Op.call { callee := Callee.value (Operand.func 58), args := #[Operand.tmp 31, Operand.tmp 32], argTypes := #[25, 29] }, type := 75, pos := "places.go:17", after := #[{ on := 1, ground := Ground.data }, { on := 2, ground := Ground.data }], guard := none }) rfl (fun K hK => ?_) AllReadyH.nil
    go_simp
    refine (HC1.out _ hHeld.2.2.2.2.2.2).mono ?_
    rintro e w11 ⟨o1, rfl, ho1, hc1, hb11⟩
    go_wp2_with fail
    refine hK.out _ _ ?_ (fun hHeld => ?_)
    · exact HSS.out _ (hHeld.2.2.2.2.2.2.trans (hb11.mono hHeld.2.2.2.2.2.2.size))
    clear hK K
    try simp only [Act.put, List.setIfInBounds_toArray, List.set_cons_zero, List.set_cons_succ]
    refine wpAnyH_ready (rs := [7]) (by kernel_rfl) (by simp) ?_
    refine AllReadyH.cons (o := { dst := some 37, op := Op.call { callee := Callee.value (Operand.func 58), args := #[Operand.tmp 35, Operand.tmp 36], argTypes := #[25, 29] }, type := 75, pos := "places.go:17", after := #[{ on := 5, ground := Ground.data }, { on := 6, ground := Ground.data }, { on := 3, ground := Ground.chain }], guard := none }) rfl (fun K hK => ?_) AllReadyH.nil
    go_simp
    refine (HC2.out _ hHeld.2.2.2.2.2.2).mono ?_
    rintro e w12 ⟨o2, rfl, ho2, hc2, hb12⟩
    go_wp2_with fail
    refine hK.out _ _ ?_ (fun hHeld => ?_)
    · exact HSS.out _ (hHeld.2.2.2.2.2.2.trans (hb12.mono hHeld.2.2.2.2.2.2.size))
    clear hK K
    try simp only [Act.put, List.setIfInBounds_toArray, List.set_cons_zero, List.set_cons_succ]
    refine wpAnyH_take (i := 8) (oi := { dst := some 10, op := Op.assign (Operand.tmp 33), type := 75, pos := "places.go:17", after := #[{ on := 3, ground := Ground.data }, { on := 7, ground := Ground.chain }, { on := 0, ground := Ground.phase }, { on := 1, ground := Ground.phase }, { on := 2, ground := Ground.phase }, { on := 3, ground := Ground.phase }, { on := 4, ground := Ground.textOnly Departure.lateStores }, { on := 5, ground := Ground.textOnly Departure.lateStores }, { on := 6, ground := Ground.textOnly Departure.lateStores }, { on := 7, ground := Ground.textOnly Departure.lateStoresUnsure }], guard := none }) (v := ?vv7) rfl (by kernel_rfl) (by kernel_rfl) (by kernel_rfl) (fun _ _ _ h => h) (Or.inl ⟨by rfl, ?hy7⟩) (by assumption) ?rest7
    case hy7 => (intro w hSw; (try dsimp only at hSw); go_simp) <;> try with_reducible rfl
    try simp only [Act.put, List.setIfInBounds_toArray, List.set_cons_zero, List.set_cons_succ]
    refine wpAnyH_take (i := 9) (oi := { dst := some 11, op := Op.assign (Operand.tmp 37), type := 75, pos := "places.go:17", after := #[{ on := 7, ground := Ground.data }, { on := 8, ground := Ground.chain }, { on := 0, ground := Ground.phase }, { on := 1, ground := Ground.phase }, { on := 2, ground := Ground.phase }, { on := 3, ground := Ground.phase }, { on := 4, ground := Ground.phase }, { on := 5, ground := Ground.phase }, { on := 6, ground := Ground.phase }, { on := 7, ground := Ground.phase }, { on := 8, ground := Ground.phase }], guard := none }) (v := ?vv8) rfl (by kernel_rfl) (by kernel_rfl) (by kernel_rfl) (fun _ _ _ h => h) (Or.inl ⟨by rfl, ?hy8⟩) (by assumption) ?rest8
    case hy8 => (intro w hSw; (try dsimp only at hSw); go_simp) <;> try with_reducible rfl
    try simp only [Act.put, List.setIfInBounds_toArray, List.set_cons_zero, List.set_cons_succ]
    refine wpAnyH_done (by kernel_rfl) ?_ _
    have hb12' : Below W.heap.size W w12 := hHeld.2.2.2.2.2.2
    have hW11 : W.heap.size ≤ w11.heap.size := hb11.size
    have ho1' : w12.heap[o1]? = some (.cells (bits (L + 1) (fun k => (VM.run rs[x].before (l.reverse.drop k) [0]).1)) 4 (0, 0)) := (hb12.block _ (lt_of_block hc1)).trans hc1
    have hlt2 := lt_of_block H2.out
    have hlt7 := lt_of_block H7.out
    have hltg := lt_of_block HG.out
    have hltx := lt_of_block HX.out
    have k2 := (hb12'.block _ hlt2).trans H2.out
    have k7 := (hb12'.block _ hlt7).trans H7.out
    have kg := (hb12'.block _ hltg).trans HG.out
    have kx := (hb12'.block _ hltx).trans HX.out
    rw [show R - pre.length = x + 1 by omega] at kg
    have c7 := cell_of_row _ _ 0 _ _ _ k7
    simp only [List.getElem?_toArray, List.getElem?_cons_zero] at c7
    have HH12 : Hid (Below W.heap.size W w12) := hb12'
    have hgo1 : o1 ≠ g := by have : W.heap.size ≤ o1 := ho1; omega
    have hgo2 : o2 ≠ g := by omega
    have hgx : bx ≠ g := by omega
    have K2 : Hid _ := k2
    have K7 : Hid _ := k7
    have KX : Hid _ := kx
    have KO1 : Hid _ := ho1'
    have KO2 : Hid _ := hc2
    have KG : Hid (w12.heap[g]? = some (.cells (bits (L + 1) fun i => VM.say el l i (rs.drop (x + 1))) 4 (0, 0))) := kg
    clear hHeld k2 k7 kg kx ho1' hc2 hc1 hb11 hb12 hb12' ho1 ho2 hW11
    gi_wp2_with fail
    clear c7
    gi_loopw [12, 40] (fun _ v wr => ∃ i : Nat, v = .int .i64 i ∧ i ≤ L + 1 ∧ wr.heap[g]? = some (.cells (bits (L + 1) fun j => if j < i then VM.say el l j (rs.drop x) else VM.say el l j (rs.drop (x + 1))) 4 (0, 0)) ∧ But (fun k => k = g) w12 wr) (fun _ v _ => L + 1 - (intOf v).toNat)
    case atStart => exact ⟨0, rfl, Nat.zero_le _, by simpa using KG.out, But.refl _ _⟩
    case round =>
      obtain ⟨i, rfl, hi, hg, hbt⟩ := hrel
      have HGr : Hid _ := hg
      have HBT : Hid _ := hbt
      by_cases hil : i < L + 1
      · obtain ⟨d, hd⟩ : ∃ d, d = L - i := ⟨_, rfl⟩
        have hdL : d < L + 1 := by omega
        obtain ⟨ba, hba⟩ : ∃ ba, ba = (VM.run rs[x].before (l.take i).reverse [0]).1 := ⟨_, rfl⟩
        obtain ⟨bb, hbb⟩ : ∃ bb, bb = (VM.run rs[x].after (l.drop i) [0]).1 := ⟨_, rfl⟩
        have co1 : wr.cell? ⟨o1, d, none⟩ = some (.bool ba) := by
          rw [World.cell?_of_block (w := w12) (a := ⟨o1, d, none⟩) (hbt.block _ (lt_of_block KO1.out) hgo1), cell_of_row _ _ d _ _ _ KO1.out, bits_get hdL, List.drop_reverse, ← HL.out, hd, show L - (L - i) = i by omega, ← hba]
        have co2 : wr.cell? ⟨o2, i, none⟩ = some (.bool bb) := by
          rw [World.cell?_of_block (w := w12) (a := ⟨o2, i, none⟩) (hbt.block _ (lt_of_block KO2.out) hgo2), cell_of_row _ _ i _ _ _ KO2.out, bits_get hil, ← hbb]
        have c5 : wr.cell? ⟨w.heap.size + 2, 0, none⟩ = some (.int .i64 (L : Nat)) := by
          have := cell_of_row _ _ 0 _ _ _ K2.out
          exact (World.cell?_of_block (w := w12) (a := ⟨w.heap.size + 2, 0, none⟩) (hbt.block _ (lt_of_block K2.out) (fun e => by have : w.heap.size + 2 = g := e; omega))).trans this
        have c7 : wr.cell? ⟨b7, 0, none⟩ = some (.slice (some ⟨g, 0, none⟩) (L + 1) (L + 1)) := by
          have := cell_of_row _ _ 0 _ _ _ K7.out
          exact (World.cell?_of_block (w := w12) (a := ⟨b7, 0, none⟩) (hbt.block _ (lt_of_block K7.out) (fun e => by have : b7 = g := e; omega))).trans this
        have cx : wr.cell? ⟨bx, 0, none⟩ = some (.bool (f.br x)) := by
          have := cell_of_row _ _ 0 _ _ _ KX.out
          exact (World.cell?_of_block (w := w12) (a := ⟨bx, 0, none⟩) (hbt.block _ (lt_of_block KX.out) hgx)).trans this
        have cg : wr.cell? ⟨g, i, none⟩ = some (.bool (if i < i then VM.say el l i (rs.drop x) else VM.say el l i (rs.drop (x + 1)))) := by
          rw [cell_of_row _ _ i _ _ _ hg, bits_get hil]
        have fg := frozen_of_row _ g i _ _ hg
        have HSD : Hid (VM.say el l i (rs.drop x) = if ba && bb then f.br x else VM.say el l i (rs.drop (x + 1))) := by
          show _ = _
          rw [VM.say_drop el l i rs hxr, HBR.out]
          unfold VM.fits
          rw [← hba, ← hbb]
        have HSAME : Hid ((ba && bb) = false → bits (L + 1) (fun j => if j < i then VM.say el l j (rs.drop x) else VM.say el l j (rs.drop (x + 1))) = bits (L + 1) (fun j => if j < i + 1 then VM.say el l j (rs.drop x) else VM.say el l j (rs.drop (x + 1)))) := fun hq => bits_congr fun j _ => by
          by_cases h1 : j < i
          · rw [if_pos h1, if_pos (by omega)]
          · by_cases h2 : j = i
            · subst h2
              rw [if_neg h1, if_pos (by omega), HSD.out, hq]
              rfl
            · rw [if_neg h1, if_neg (by omega)]
        have HTURN : Hid ((ba && bb) = true → (bits (L + 1) (fun j => if j < i then VM.say el l j (rs.drop x) else VM.say el l j (rs.drop (x + 1)))).setIfInBounds i (.bool (f.br x)) = bits (L + 1) (fun j => if j < i + 1 then VM.say el l j (rs.drop x) else VM.say el l j (rs.drop (x + 1)))) := fun hq => bits_set (by
          show f.br x = if i < i + 1 then VM.say el l i (rs.drop x) else VM.say el l i (rs.drop (x + 1))
          rw [if_pos (by omega), HSD.out, hq]
          rfl) (fun j hj _ => by
          show (if j < i + 1 then _ else _) = if j < i then _ else _
          by_cases h1 : j < i
          · rw [if_pos h1, if_pos (by omega)]
          · rw [if_neg h1, if_neg (by omega)])
        generalize f.br x = fb at *
        have hw2 : (L : Int) - (i : Int) = (d : Int) := by omega
        have hdz : (d : Int) < (L : Int) + 1 := by omega
        have hiz : (i : Int) < (L : Int) + 1 := by omega
        have hw1 : IntKind.i64.wrap ((L : Int) - (i : Int)) = (d : Int) := by rw [hw2]; exact wrap_little (by omega) (by omega)
        clear hba hbb hd hg hbt
        cases ba with
        | false =>
          gi_wp2_with fail
          case roundEnd => exact ⟨⟨i + 1, by go_num, by omega, by rw [← HSAME.out rfl]; exact HGr.out, HBT.out⟩, by simp [intOf]; omega⟩
        | true =>
          cases bb with
          | false =>
            gi_wp2_with fail
            case roundEnd => exact ⟨⟨i + 1, by go_num, by omega, by rw [← HSAME.out rfl]; exact HGr.out, HBT.out⟩, by simp [intOf]; omega⟩
          | true =>
            gi_wp2_with fail
            case roundEnd => exact ⟨⟨i + 1, by go_num, by omega, by rw [← HTURN.out rfl]; exact heap_setCell_same _ g i _ 4 _ HGr.out, HBT.out.set g i _ (.inl rfl)⟩, by simp [intOf]; omega⟩
      · obtain rfl : i = L + 1 := by omega
        have hs12 := HH12.out.size
        have hblk : ∀ k, k < W.heap.size → k ≠ g → wr.heap[k]? = W.heap[k]? := fun k hk hkg => (hbt.block k (by omega) hkg).trans (HH12.out.block k hk)
        have hbtb : Below w.heap.size w12 wr := hbt.below (by omega) (fun j hj => by omega)
        have hsz2 := hbt.size
        have e : (pre ++ [x]).length = pre.length + 1 := by simp
        have R9 : Hid (RF.left w0.heap.size (KpB w.heap.size (b7 + 1)) (PI w.heap.size b6 b7 g w (.slice lo L lcap) (.slice tao L tcp) L R l el rs) (fun _ => False) (pre ++ [x]) W .normal { tmps := #[], defers := [] } wr) := by
          refine ⟨⟨by omega, fun k o hk ho hc => ?_⟩, ⟨(HH12.out.mono hsb).trans hbtb, hblk _ (by omega) (by omega)⟩, (hblk _ (lt_of_block HI1.out) (by omega)).trans HI1.out, (hblk _ hlt2 (by omega)).trans H2.out, (hblk _ (lt_of_block HI6.out) (by omega)).trans HI6.out, (hblk _ hlt7 (by omega)).trans H7.out, ?_, ?_, HBB.out.trans ((HH12.out.mono hsb).trans hbtb), by omega⟩
          · have hkl : k < W.heap.size := (Array.getElem?_eq_some_iff.1 ho).1
            refine (hblk k hkl (fun e => ?_)).trans ho
            rw [e, HG.out] at ho
            cases ho
            cases hc
          · rw [HGr.out, e, show R - (pre.length + 1) = x by omega]
            rw [bits_congr (f := fun j => if j < L + 1 then VM.say el l j (rs.drop x) else VM.say el l j (rs.drop (x + 1))) (g := fun i => VM.say el l i (rs.drop x)) (fun k hk => by rw [if_pos hk])]
          · refine own_but (own_but HO.out (But.of_below HH12.out (fun _ => False)) (fun _ _ => id)) hbt (fun k hk => ?_)
            have := HV5.out k hk
            omega
        clear hg hbt
        gi_wp2_with fail
        exact R9.out

end Go.Proofs.YtddjppkpgflbjaaDoor
