/- Sorting ranges by their beginnings: the shelf's contract of slices.SortFunc, at the closure of set.Of. -/
import Derived.Test.YtjbdlihlcoldlaaGreatDoorG02
import Derived.Test.YtjbdlihlcoldlaaGreatDoorG08
import Derived.Test.YtjbdlihlcoldlaaGreatDoorG03
import Derived.BigRegion
import Derived.OneCell
namespace Go.Proofs.YtjbdlihlcoldlaaGreatDoor
open Go.Shelf Go.RowKit Go.Lib Go.Sort

def cf (x y : RS.Rg) : Int := if x.1 < y.1 then -1 else if y.1 < x.1 then 1 else 0

theorem ltLo (x y : RS.Rg) : ltOf cf x y = decide (x.1 < y.1) := by
  unfold ltOf cf
  by_cases h1 : x.1 < y.1
  · simp [h1]
  · by_cases h2 : y.1 < x.1 <;> simp [h1, h2]

theorem swoLo : SWO (ltOf cf) where
  irrefl x := by rw [ltLo]; simp
  trans x y z h1 h2 := by rw [ltLo] at *; simp at *; omega
  ntrans x y z h1 h2 := by rw [ltLo] at *; simp at *; omega

set_option maxHeartbeats 1000000 in
set_option maxRecDepth 100000 in
theorem compare_any (x y : Int) (w : World) :
    Calls Tryz.prog 183 #[.int .i64 x, .int .i64 y] w fun e w' => e = .returned (.int .i64 (if x < y then -1 else if y < x then 1 else 0)) ∧ w' = w := by
  by_cases h1 : x < y
  · rw [if_pos h1]
    have h1' : ((x : Int) != x) = false := by simp
    have h2' : ((y : Int) != y) = false := by simp
    go_enter Tryz.func183, Tryz.ntmps183
    go_wp2
    go_ret
    exact ⟨rfl, rfl⟩
  · rw [if_neg h1]
    by_cases h2 : y < x
    · rw [if_pos h2]
      have h1' : ((x : Int) != x) = false := by simp
      have h2' : ((y : Int) != y) = false := by simp
      go_enter Tryz.func183, Tryz.ntmps183
      go_wp2
      go_ret
      exact ⟨rfl, rfl⟩
    · rw [if_neg h2]
      have h1' : ((x : Int) != x) = false := by simp
      have h2' : ((y : Int) != y) = false := by simp
      go_enter Tryz.func183, Tryz.ntmps183
      go_wp2
      go_ret
      exact ⟨rfl, rfl⟩

set_option maxHeartbeats 1000000 in
set_option maxRecDepth 100000 in
theorem closure44 (x y : RS.Rg) (W : World) : Calls Tryz.prog 182 #[.agg #[.int .i64 x.1, .int .i64 x.2], .agg #[.int .i64 y.1, .int .i64 y.2]] W fun e w' => e = .returned (.int .i64 (cf x y)) ∧ ∃ q os', w' = grow (W.drewN q) os' := by
  have hcon := fun W' => compare_any x.1 y.1 W'
  change ∀ W', Calls Tryz.prog 183 _ W' (fun e w' => e = .returned (.int .i64 (cf x y)) ∧ w' = W') at hcon
  generalize cf x y = r at hcon ⊢
  go_enter Tryz.func182, Tryz.ntmps182
  go_wp2_with (go_at_call 183; refine (hcon _).mono ?_; rintro e w' ⟨rfl, rfl⟩)
  go_ret
  exact ⟨rfl, 0, _, by rw [alloc_eq_grow, alloc_eq_grow, grow_grow]; rfl⟩

theorem cmpLays44 (blk off size : Nat) (w : World) : CmpLays Tryz.prog 182 #[] cells2 2 cf blk off size w :=
  fun _ _ _ _ x y => closure44 x y _

theorem flatK_cells2 (d : Array RS.Rg) : (flatK cells2 2 d).toList = flat2 d.toList := by
  apply List.ext_getElem?
  intro t
  by_cases h : t < d.size * 2
  · have hk : t / 2 < d.toList.length := by simp; omega
    obtain ⟨h1, h2⟩ := flat2_get d.toList (t / 2) hk
    have hs : t < (flatK cells2 2 d).toList.length := by simpa using h
    have e : (flatK cells2 2 d).toList[t]? = some (flatK cells2 2 d)[t]! := by
      rw [List.getElem?_eq_getElem hs]
      simp at hs
      simp [hs]
    rw [e, get_flatK _ _ _ _ h]
    have hd : d[t / 2]! = d.toList[t / 2] := by
      have : t / 2 < d.size := by simpa using hk
      simp [this]
    rw [hd]
    rcases Nat.mod_two_eq_zero_or_one t with hm | hm
    · have ht : t / 2 * 2 = t := by omega
      rw [ht] at h1
      rw [h1, hm]; rfl
    · have ht : t / 2 * 2 + 1 = t := by omega
      rw [ht] at h2
      rw [h2, hm]; rfl
  · rw [List.getElem?_eq_none (by simp; omega), List.getElem?_eq_none (by rw [flat2_length]; simp; omega)]

theorem holds2 {w : World} {g cap n : Nat} {cur : Array Value} {s : List RS.Rg} (hh : w.heap[g]? = some (.cells cur 46)) (ht : cur.toList.take n = flat2 s) (hn : n = s.length * 2) (_hc : n ≤ cap) : HoldsK cells2 2 w g 0 s.toArray := by
  intro j hj
  have hj' : j < s.length * 2 := by simpa using hj
  refine ⟨?_, by simp [World.frozen?, hh]⟩
  have h1 : (cur.toList.take n)[j]? = (flat2 s)[j]? := by rw [ht]
  rw [List.getElem?_take_of_lt (by omega)] at h1
  have h2 := flatK_cells2 s.toArray
  have h3 : (flatK cells2 2 s.toArray).toList[j]? = some (flatK cells2 2 s.toArray)[j]! := by
    have hs : j < (flatK cells2 2 s.toArray).toList.length := by simpa using hj'
    rw [List.getElem?_eq_getElem hs]
    simp at hs
    simp [hs]
  rw [h2] at h3
  simp only [World.cell?, hh, Nat.zero_add]
  simp only [Option.isSome_none, Bool.false_eq_true, if_false]
  rw [← Array.getElem?_toList, h1, h3]
  rfl

theorem heap_sorted2 {w : World} {g n : Nat} {os : Array Obj} {cur : Array Value} {e : TypeId} {fr : Nat × Nat} (d : Array Value) (hb : w.heap[g]? = some (.cells cur e fr)) :
    (grow (putRow id (Sort.ahead w n) g 0 d) os).heap[g]? = some (.cells (putCells id 0 d cur) e fr) := by
  have hg : g < w.heap.size := (Array.getElem?_eq_some_iff.1 hb).1
  rw [heap_grow_old _ _ (by simpa using hg)]
  simp [putRow, mapBlock, Sort.ahead, Array.getElem?_modify, hb, onCells]

theorem grownBy_sorted2 {w : World} {g n : Nat} {os : Array Obj} (d : Array Value) : w.grownBy (grow (putRow id (Sort.ahead w n) g 0 d) os) (some g) := by
  refine ⟨rfl, rfl, rfl, by simp, fun k hk hne => ?_⟩
  rw [heap_grow_old _ _ (by simpa using hk)]
  have : g ≠ k := fun e => hne (by rw [e])
  simp [putRow, mapBlock, Sort.ahead, Array.getElem?_modify, this]

theorem take_putCells2 (cur : Array Value) (d : Array Value) (h : d.size ≤ cur.size) : (putCells id 0 d cur).toList.take d.size = d.toList := by
  apply List.ext_getElem?
  intro j
  by_cases hj : j < d.size
  · rw [List.getElem?_take_of_lt hj, Array.getElem?_toList]
    simp [putCells, hj, show j < cur.size by omega]
  · rw [List.getElem?_take_eq_none (by omega), List.getElem?_eq_none (by simp; omega)]

theorem permIn_all {d d' : Array RS.Rg} (h : PermIn 0 d.size d d') : d'.toList.Perm d.toList := by
  obtain ⟨h1, _, h3⟩ := h
  have e : d.extract 0 d.size = d := by simp
  have e' : d'.extract 0 d.size = d' := by rw [← h1]; simp
  rwa [e, e'] at h3

theorem sortedIn_all {d' : Array RS.Rg} {n : Nat} (hn : n = d'.size) (h : SortedIn (ltOf cf) 0 n d') : d'.toList.Pairwise (fun x y => x.1 ≤ y.1) := by
  rw [List.pairwise_iff_getElem]
  intro i j hi hj hij
  have := h i j (Nat.zero_le _) hij (by simp at hj; omega)
  rw [ltLo] at this
  simp at hi hj
  simp [hi, hj] at this
  simpa using this

/-- slices.SortFunc over a row of the call's own. -/
theorem sort_any {B : Nat} (v : Value) (s : List RS.Rg) (hlen : s.length ≤ 4000000) (hs0 : s ≠ []) (w : World) (hB : B ≤ w.heap.size) (hown : w.ownsRow B 46 2 v s.length (flat2 s)) :
    Calls Tryz.prog 181 #[v, .func (.func 182) #[] #[]] w fun e w' => e = .returned (.tuple #[]) ∧ ∃ d : List RS.Rg, d.Perm s ∧ d.Pairwise (fun x y => x.1 ≤ y.1) ∧ w'.ownsRow B 46 2 v s.length (flat2 d) ∧ Below B w w' := by
  obtain ⟨h1, h2 | ⟨g, cap, cur, rfl, hg, hh, hn, hc, hs, ht⟩⟩ := hown
  · exact absurd (List.length_eq_zero_iff.1 h2.2) hs0
  · have hH := holds2 hh ht rfl (cap := s.length * 2) (Nat.le_refl _)
    have eg : ∀ args w, (callFunc 182 args).run Tryz.prog w = .ok (.enter 182 args) w := enters_of Tryz.func182 (by kernel_rfl) rfl
    have hcon := AnyQ.slices_SortFunc Tryz.sortL 2 Tryz.isAgg46 Tryz.sizeOf46 cells2 (fun _ => rfl) (fun x v hv => cells2_one x v hv) cf swoLo 182 #[] g 0 cap s.toArray w eg (cmpLays44 g 0 _ w) hH (lt_of_block hh) (by simp; omega)
    change Calls Tryz.prog 181 #[.slice (some ⟨g, 0, none⟩) s.length cap, .func (.func 182) #[] #[]] w _ at hcon
    refine hcon.mono ?_
    rintro e w' ⟨rfl, d', n, os, hp, hso, rfl⟩
    have hsz : d'.size = s.length := by have := hp.1; simpa using this
    have hperm := permIn_all hp
    refine ⟨rfl, d'.toList, by simpa using hperm, sortedIn_all (n := s.toArray.size) (by simp [hsz]) hso, ?_, ?_⟩
    · refine ⟨by rw [flat2_length]; simp [hsz], .inr ⟨g, cap, _, rfl, hg, heap_sorted2 _ hh, hn, hc, by simp [putCells, hs], ?_⟩⟩
      have h := take_putCells2 cur (flatK cells2 2 d') (by simp [hsz, hs]; omega)
      rw [flatK_cells2] at h
      rw [← h]
      simp [hsz]
    · exact (Below.refl B w).grown (grownBy_sorted2 _) hB (fun k hk => by cases hk; exact hg)

end Go.Proofs.YtjbdlihlcoldlaaGreatDoor

namespace Go.Proofs.YtjbdlihlcoldlaaGreatDoor
open Go.RowKit

set_option maxHeartbeats 1000000 in
set_option maxRecDepth 100000 in
theorem insertion_none (ao : Option Addr) (cap : Nat) (fv : Value) (w : World) :
    Calls Tryz.prog 223 #[.slice ao 0 cap, .int .i64 0, .int .i64 0, fv] w fun e w' => e = .returned (.tuple #[]) ∧ w' = w := by
  go_enter Tryz.func223, Tryz.ntmps223
  go_wp2_with fail
  refine wp_loop_rounds 1 ?_
  rw [rounds_succ]
  go_wp2_with fail
  go_end0
  exact ⟨rfl, rfl⟩

set_option maxHeartbeats 1000000 in
set_option maxRecDepth 100000 in
theorem len_none (w : World) :
    Calls Tryz.prog 209 #[.int .u64 0] w fun e w' => e = .returned (.int .i64 0) ∧ w' = w := by
  go_enter Tryz.func209, Tryz.ntmps209
  go_wp2
  go_ret
  exact ⟨ret_int (show wrap64 (wrap64 (Lib.len8 0)) = 0 by kernel_rfl), rfl⟩

set_option maxHeartbeats 1000000 in
set_option maxRecDepth 100000 in
theorem pdq_none (ao : Option Addr) (cap : Nat) (fv : Value) (w : World) :
    Calls Tryz.prog 208 #[.slice ao 0 cap, .int .i64 0, .int .i64 0, .int .i64 0, fv] w fun e w' => e = .returned (.tuple #[]) ∧ w' = w := by
  go_enter Tryz.func208, Tryz.ntmps208
  go_wp2_with fail
  refine wp_loop_rounds 1 ?_
  rw [rounds_succ]
  go_wp2_with fail
  refine (insertion_none ao cap fv _).mono ?_
  rintro e w' ⟨rfl, rfl⟩
  go_wp2_with fail
  (try simp only [Exit.inBlock, Exit.then])
  refine bodyPost_ret (results_none rfl _ _ _) rfl ?_
  exact ⟨rfl, rfl⟩

set_option maxHeartbeats 1000000 in
set_option maxRecDepth 100000 in
theorem sort_none (ao : Option Addr) (cap : Nat) (fv : Value) (w : World) :
    Calls Tryz.prog 181 #[.slice ao 0 cap, fv] w fun e w' => e = .returned (.tuple #[]) ∧ w' = w := by
  go_enter Tryz.func181, Tryz.ntmps181
  go_wp2_with fail
  refine (len_none _).mono ?_
  rintro e w' ⟨rfl, rfl⟩
  go_wp2_with fail
  refine (pdq_none ao cap fv _).mono ?_
  rintro e w' ⟨rfl, rfl⟩
  go_wp2_with fail
  go_end0
  exact ⟨rfl, rfl⟩

end Go.Proofs.YtjbdlihlcoldlaaGreatDoor

namespace Go.Proofs.YtjbdlihlcoldlaaGreatDoor
open Go.RowKit

set_option maxHeartbeats 1000000 in
set_option maxRecDepth 100000 in
/-- both: what is in both of two ranges; three blocks are laid. -/
theorem both_any (x y : RS.Rg) (w : World) :
    Calls Tryz.prog 129 #[.agg #[.int .i64 x.1, .int .i64 x.2], .agg #[.int .i64 y.1, .int .i64 y.2]] w fun e w' => e = .returned (.agg #[.int .i64 (RS.both x y).1, .int .i64 (RS.both x y).2]) ∧ Below w.heap.size w w' := by
  obtain ⟨a, b⟩ := x
  obtain ⟨c, d⟩ := y
  have HB : ∀ o1 o2 o3, Below w.heap.size w (((w.alloc o1).alloc o2).alloc o3) := fun o1 o2 o3 => (((Below.refl _ w).alloc (Nat.le_refl _) _).alloc (by simp) _).alloc (by simp; omega) _
  go_enter Tryz.func129, Tryz.ntmps129
  go_wp2
  all_goals
    refine bodyPost_ret (results_cell_row rfl _ _ (w.heap.size + 1 + 1) 46 #[_, _] _ _ rfl (heap3 w _ _ _) Tryz.underlying46 rfl size53) rfl ?_
    exact ⟨agg_eq (show _ = max a c by omega) (show _ = min b d by omega), HB _ _ _⟩

set_option maxHeartbeats 1000000 in
set_option maxRecDepth 100000 in
theorem not_some (b off cap : Nat) (s : List RS.Rg) (hlen : s.length ≤ 4000000) (w : World) (hb : b < w.heap.size) (hr : RS.right s = true)
    (hc : ∀ k (h : k < s.length), w.cell? ⟨b, off + k * 2, none⟩ = some (.int .i64 s[k].1) ∧ w.cell? ⟨b, off + k * 2 + 1, none⟩ = some (.int .i64 s[k].2)) :
    Calls Tryz.prog 72 #[.slice (some ⟨b, off, none⟩) s.length cap] w fun e w' => ∃ v, e = .returned v ∧ w'.ownsRow w.heap.size 46 2 v (RS.notL s).length (flat2 (RS.notL s)) ∧ Below w.heap.size w w' := by
  obtain ⟨i0, hi, hz0, hz1, hz2⟩ := info_parts info53
  have HC : Hid (∀ k (h : k < s.length), w.cell? ⟨b, off + k * 2, none⟩ = some (.int .i64 s[k].1) ∧ w.cell? ⟨b, off + k * 2 + 1, none⟩ = some (.int .i64 s[k].2)) := hc
  have HR : Hid (RS.rightFrom (-2) s = true) := hr
  clear hc hr
  go_enter Tryz.func72, Tryz.ntmps72
  go_wp2
  go_loopw [3, 4, 9] (fun v l i wr => ∃ (k : Nat) (next : Int) (out : List RS.Rg), k ≤ s.length ∧ i = .int .i64 k ∧ l = .int .i64 next ∧ 0 ≤ next ∧ next ≤ 1114112 ∧ out.length ≤ k ∧ out ++ RS.notFrom next (s.drop k) = RS.notL s ∧ RS.rightFrom (next - 2) (s.drop k) = true ∧ wr.ownsRow w.heap.size 46 2 v out.length (flat2 out) ∧ Below w.heap.size w wr) (fun _ _ i _ => s.length - (intOf i).toNat)
  case atStart => exact ⟨0, 0, [], Nat.zero_le _, rfl, rfl, by omega, by omega, Nat.le_refl _, rfl, HR.out, World.ownsRow_nil _ _ _ _, Below.refl _ _⟩
  case round =>
    obtain ⟨k, next, out, hk, rfl, rfl, hn1, hn2, hol, hout, hrr, hown, hnx⟩ := hrel
    have HO : Hid (out ++ RS.notFrom next (s.drop k) = RS.notL s) := hout
    clear hout
    by_cases hlt : k < s.length
    · obtain ⟨x0, x1⟩ := HC.out k hlt
      replace x0 := (hnx.cell (p := ⟨b, off + k * 2, none⟩) (by exact hb)).trans x0
      replace x1 := (hnx.cell (p := ⟨b, off + k * 2 + 1, none⟩) (by exact hb)).trans x1
      obtain ⟨r, hr⟩ : ∃ r, r = s[k] := ⟨_, rfl⟩
      rw [← hr] at x0 x1
      have hd : s.drop k = r :: s.drop (k + 1) := by rw [hr]; exact List.drop_eq_getElem_cons hlt
      clear hr
      rw [hd, RS.rightFrom_cons] at hrr
      obtain ⟨r1, r2, r3, r4⟩ := hrr
      have HRR : Hid (RS.rightFrom r.2 (s.drop (k + 1)) = true) := r4
      have HO2 : Hid (out ++ ((if next < r.1 then [(next, r.1 - 1)] else []) ++ RS.notFrom (r.2 + 1) (s.drop (k + 1))) = RS.notL s) := by
        show _ = _
        rw [← HO.out, hd]; rfl
      clear r4 hd HO
      obtain ⟨lo, hi'⟩ := r
      dsimp only at x0 x1 r1 r2 r3 HRR HO2
      have HB := hnx.alloc hnx.size (Obj.cells #[Value.int IntKind.i64 lo, Value.int IntKind.i64 hi'] 46)
      have hown1 := hown.alloc (Obj.cells #[Value.int IntKind.i64 lo, Value.int IntKind.i64 hi'] 46)
      by_cases hnl : next < lo
      · go_wp2_with (at_builtin; refine wpList_append_own _ rfl _ _ 41 rfl w.heap.size 46 i0 (.agg #[.int .i64 0, .int .i64 0]) 2 16 Tryz.underlying41 hi hz0 hz1 hz2 rfl (by decide) _ _ _ rfl (hown1.alloc _) ⟨wr.heap.size + 1, 0, none⟩ 1 1 (cells2 (next, lo - 1)) rfl rfl (cells2_at (by simp) (by simp)) (cells2_one _) ?_ ?_ ?_ ?_)
        rotate_right
        · intro v' w1 hown' hgrow _
          have R := app53 (r := (next, lo - 1)) (HB.alloc (by simp; have := hnx.size; omega) _) (by simp; have := hnx.size; omega) (hown1.alloc _) hown' hgrow
          have R1 := R.2.2 wr.heap.size 1 (by simp; omega) (hown1.alloc _) (fun e => by have := (hown.lt _ e).2; omega)
          simp at R1
          have R2 : Hid _ := R
          clear R hown' hgrow hown hown1
          go_wp2
          go_roundw
          case rel => exact ⟨k + 1, hi' + 1, out ++ [(next, lo - 1)], by omega, by go_num, rfl, by omega, by omega, by simp; omega, by have := HO2.out; rw [if_pos hnl] at this; rw [List.append_assoc]; exact this, RS.rightFrom_mono HRR.out (by omega), R2.out.1, R2.out.2.1⟩
          case measure => simp [intOf]; omega
        · unfold maxLen; omega
        · omega
        · have := hnx.size; simp; omega
      · go_wp2
        go_roundw
        case rel => exact ⟨k + 1, hi' + 1, out, by omega, by go_num, rfl, by omega, by omega, by omega, by have := HO2.out; rw [if_neg hnl] at this; exact this, RS.rightFrom_mono HRR.out (by omega), hown1, HB⟩
        case measure => simp [intOf]; omega
    · have HO2 : Hid (out ++ (if next ≤ 1114111 then [(next, 1114111)] else []) = RS.notL s) := by
        show _ = _
        rw [← HO.out, List.drop_of_length_le (by omega)]; rfl
      clear HO hrr
      by_cases hnl : next ≤ 1114111
      · go_wp2_with (at_builtin; refine wpList_append_own _ rfl _ _ 41 rfl w.heap.size 46 i0 (.agg #[.int .i64 0, .int .i64 0]) 2 16 Tryz.underlying41 hi hz0 hz1 hz2 rfl (by decide) _ _ _ rfl (hown.alloc _) ⟨wr.heap.size, 0, none⟩ 1 1 (cells2 (next, 1114111)) rfl rfl (cells2_at (by simp) (by simp)) (cells2_one _) ?_ ?_ ?_ ?_)
        rotate_right
        · intro v' w1 hown' hgrow _
          have R := app53 (r := (next, 1114111)) (hnx.alloc hnx.size _) (by simp; have := hnx.size; omega) (hown.alloc _) hown' hgrow
          have R2 : Hid _ := R
          clear R hown' hgrow hown
          go_wp2
          go_ret
          have := HO2.out
          rw [if_pos hnl] at this
          rw [← this]
          exact ⟨_, rfl, R2.out.1, R2.out.2.1⟩
        · unfold maxLen; omega
        · omega
        · have := hnx.size; simp; omega
      · go_wp2
        go_ret
        have := HO2.out
        rw [if_neg (by omega), List.append_nil] at this
        rw [← this]
        exact ⟨_, rfl, hown, hnx⟩

set_option maxHeartbeats 1000000 in
set_option maxRecDepth 100000 in
theorem not_nil (ao : Option Addr) (cap : Nat) (w : World) :
    Calls Tryz.prog 72 #[.slice ao 0 cap] w fun e w' => ∃ v, e = .returned v ∧ w'.ownsRow w.heap.size 46 2 v (RS.notL []).length (flat2 (RS.notL [])) ∧ Below w.heap.size w w' := by
  obtain ⟨i0, hi, hz0, hz1, hz2⟩ := info_parts info53
  go_enter Tryz.func72, Tryz.ntmps72
  go_wp2_with fail
  refine wp_loop_rounds 1 ?_
  rw [rounds_succ]
  go_wp2_with (at_builtin; refine wpList_append_own _ rfl _ _ 41 rfl w.heap.size 46 i0 (.agg #[.int .i64 0, .int .i64 0]) 2 16 Tryz.underlying41 hi hz0 hz1 hz2 rfl (by decide) _ _ _ rfl ((World.ownsRow_nil w _ _ _).alloc _) ⟨w.heap.size, 0, none⟩ 1 1 (cells2 (0, 1114111)) rfl rfl (cells2_at (by simp) (by simp)) (cells2_one _) (by decide) (by decide) (by simp) ?_)
  intro v' w1 hown' hgrow _
  have R := app53 (r := (0, 1114111)) (s := []) ((Below.refl _ w).alloc (Nat.le_refl _) _) (by simp) ((World.ownsRow_nil w _ _ _).alloc _) hown' hgrow
  have R2 : Hid _ := R
  clear R hown' hgrow
  go_wp2
  go_ret
  exact ⟨_, rfl, R2.out.1, R2.out.2.1⟩

theorem not_any (v : Value) (s : List RS.Rg) (hlen : s.length ≤ 4000000) (w : World) (hv : RgAt w.heap.size w v s) (hr : RS.right s = true) :
    Calls Tryz.prog 72 #[v] w fun e w' => ∃ v, e = .returned v ∧ w'.ownsRow w.heap.size 46 2 v (RS.notL s).length (flat2 (RS.notL s)) ∧ Below w.heap.size w w' := by
  obtain ⟨ao, cap, rfl, _, h⟩ := hv
  by_cases hz : s = []
  · subst hz
    exact not_nil ao cap w
  · obtain ⟨b, off, rfl, hb, hc⟩ := h hz
    exact not_some b off cap s hlen w hb hr hc


end Go.Proofs.YtjbdlihlcoldlaaGreatDoor

namespace Go.Proofs.YtjbdlihlcoldlaaGreatDoor
open Go.RowKit

set_option maxHeartbeats 1000000 in
set_option maxRecDepth 100000 in
theorem within_some (b off cap : Nat) (s : List RS.Rg) (hlen : s.length ≤ 4000000) (w : World) (hb : b < w.heap.size)
    (hc : ∀ k (h : k < s.length), w.cell? ⟨b, off + k * 2, none⟩ = some (.int .i64 s[k].1) ∧ w.cell? ⟨b, off + k * 2 + 1, none⟩ = some (.int .i64 s[k].2)) :
    Calls Tryz.prog 180 #[.slice (some ⟨b, off, none⟩) s.length cap] w fun e w' => ∃ v, e = .returned v ∧ w'.ownsRow w.heap.size 46 2 v (RS.within s).length (flat2 (RS.within s)) ∧ Below w.heap.size w w' := by
  obtain ⟨i0, hi, hz0, hz1, hz2⟩ := info_parts info53
  have HC : Hid (∀ k (h : k < s.length), w.cell? ⟨b, off + k * 2, none⟩ = some (.int .i64 s[k].1) ∧ w.cell? ⟨b, off + k * 2 + 1, none⟩ = some (.int .i64 s[k].2)) := hc
  clear hc
  go_enter Tryz.func180, Tryz.ntmps180
  go_wp2
  go_loopw [3, 8] (fun v i wr => ∃ (k : Nat) (out : List RS.Rg), k ≤ s.length ∧ i = .int .i64 k ∧ out.length ≤ k ∧ out ++ RS.within (s.drop k) = RS.within s ∧ wr.ownsRow w.heap.size 46 2 v out.length (flat2 out) ∧ Below w.heap.size w wr) (fun _ i _ => s.length - (intOf i).toNat)
  case atStart => exact ⟨0, [], Nat.zero_le _, rfl, Nat.le_refl _, rfl, World.ownsRow_nil _ _ _ _, Below.refl _ _⟩
  case round =>
    obtain ⟨k, out, hk, rfl, hol, hout, hown, hnx⟩ := hrel
    have HO : Hid (out ++ RS.within (s.drop k) = RS.within s) := hout
    clear hout
    by_cases hlt : k < s.length
    · obtain ⟨x0, x1⟩ := HC.out k hlt
      replace x0 := (hnx.cell (p := ⟨b, off + k * 2, none⟩) (by exact hb)).trans x0
      replace x1 := (hnx.cell (p := ⟨b, off + k * 2 + 1, none⟩) (by exact hb)).trans x1
      obtain ⟨r, hr⟩ : ∃ r, r = s[k] := ⟨_, rfl⟩
      rw [← hr] at x0 x1
      have hd : s.drop k = r :: s.drop (k + 1) := by rw [hr]; exact List.drop_eq_getElem_cons hlt
      clear hr
      have HO2 : Hid (out ++ ((if (RS.cut r).1 ≤ (RS.cut r).2 then [RS.cut r] else []) ++ RS.within (s.drop (k + 1))) = RS.within s) := by
        show _ = _
        rw [← HO.out, hd, RS.within_cons]
      clear hd HO
      obtain ⟨c, hcut⟩ : ∃ c, c = RS.cut r := ⟨_, rfl⟩
      rw [← hcut] at HO2
      have hbo : RS.both (r.1, r.2) (0, 1114111) = c := by rw [hcut]; rfl
      have HB := hnx.alloc hnx.size (Obj.cells #[Value.int IntKind.i64 r.1, Value.int IntKind.i64 r.2] 46)
      have hown1 := hown.alloc (Obj.cells #[Value.int IntKind.i64 r.1, Value.int IntKind.i64 r.2] 46)
      have hcon := fun W => both_any (r.1, r.2) (0, 1114111) W
      rw [hbo] at hcon
      dsimp only at hcon
      clear hbo hcut
      obtain ⟨lo, hi'⟩ := r
      obtain ⟨clo, chi⟩ := c
      dsimp only at x0 x1 HO2 HB hown1 hcon
      go_wp2_with fail
      refine (hcon _).mono ?_
      rintro e w2 ⟨rfl, hb2⟩
      have y0 := (hb2.cell (p := ⟨wr.heap.size, 0, none⟩) (by simp))
      have y1 := (hb2.cell (p := ⟨wr.heap.size, 1, none⟩) (by simp))
      have y2 := (hb2.frozen (p := ⟨wr.heap.size, 0, none⟩) (by simp))
      have y3 := (hb2.frozen (p := ⟨wr.heap.size, 1, none⟩) (by simp))
      have hown2 := owns_later hown1 hb2
      have hb3 := HB.trans (hb2.mono (by have := hnx.size; simp; omega))
      have hsz : wr.heap.size + 1 ≤ w2.heap.size := by have := hb2.size; simpa using this
      simp at y0 y1 y2 y3
      have hne : ∀ g, Value.ownBlock _ = some g → g ≠ wr.heap.size := fun g e => by have := (hown.lt _ e).2; omega
      have hown3 := ownsRow_setCell_other (ownsRow_setCell_other hown2 (a := ⟨wr.heap.size, 0, none⟩) (fun e => hne _ e rfl) (.int .i64 clo)) (a := ⟨wr.heap.size, 1, none⟩) (fun e => hne _ e rfl) (.int .i64 chi)
      have hb4 := (hb3.setCell (p := ⟨wr.heap.size, 0, none⟩) (by have := hnx.size; exact this) (.int .i64 clo)).setCell (p := ⟨wr.heap.size, 1, none⟩) (by have := hnx.size; exact this) (.int .i64 chi)
      have hsw : w.heap.size ≤ w2.heap.size := hb3.size
      clear hb2 HB hown1 hcon x0 x1 hown2 hb3
      by_cases hcl : clo ≤ chi
      · go_wp2_with (at_builtin; refine wpList_append_own _ rfl _ _ 40 rfl w.heap.size 46 i0 (.agg #[.int .i64 0, .int .i64 0]) 2 16 Tryz.underlying40 hi hz0 hz1 hz2 rfl (by decide) _ _ _ rfl (hown3.alloc _) ⟨w2.heap.size, 0, none⟩ 1 1 (cells2 (clo, chi)) rfl rfl (cells2_at ?_ ?_) (cells2_one _) ?_ ?_ ?_ ?_)
        rotate_right
        · intro v' w1 hown' hgrow _
          have R := app53 (r := (clo, chi)) (hb4.alloc (by simpa using hsw) _) (by simp; omega) (hown3.alloc _) hown' hgrow
          have R2 : Hid _ := R
          clear R hown' hgrow hown hown3
          go_wp2
          go_roundw
          case rel => exact ⟨k + 1, out ++ [(clo, chi)], by omega, by go_num, by simp; omega, by have := HO2.out; rw [if_pos hcl] at this; rw [List.append_assoc]; exact this, R2.out.1, R2.out.2.1⟩
          case measure => simp [intOf]; omega
        · unfold maxLen; omega
        · omega
        · simp; omega
      · go_wp2
        go_roundw
        case rel => exact ⟨k + 1, out, by omega, by go_num, by omega, by have := HO2.out; rw [if_neg (by omega)] at this; exact this, hown3, hb4⟩
        case measure => simp [intOf]; omega
    · go_wp2
      go_ret
      have := HO.out
      rw [List.drop_of_length_le (by omega)] at this
      have e : out = RS.within s := by rw [← this]; simp [RS.within]
      rw [← e]
      exact ⟨_, rfl, hown, hnx⟩

set_option maxHeartbeats 1000000 in
set_option maxRecDepth 100000 in
theorem within_nil (ao : Option Addr) (cap : Nat) (w : World) :
    Calls Tryz.prog 180 #[.slice ao 0 cap] w fun e w' => e = .returned (.slice none 0 0) ∧ w' = w := by
  go_enter Tryz.func180, Tryz.ntmps180
  go_wp2_with fail
  refine wp_loop_rounds 1 ?_
  rw [rounds_succ]
  go_wp2_with fail
  go_ret
  exact ⟨rfl, rfl⟩

theorem within_any (v : Value) (s : List RS.Rg) (hlen : s.length ≤ 4000000) (w : World) (hv : RgAt w.heap.size w v s) :
    Calls Tryz.prog 180 #[v] w fun e w' => ∃ v, e = .returned v ∧ w'.ownsRow w.heap.size 46 2 v (RS.within s).length (flat2 (RS.within s)) ∧ Below w.heap.size w w' := by
  obtain ⟨ao, cap, rfl, _, h⟩ := hv
  by_cases hz : s = []
  · subst hz
    refine (within_nil ao cap w).mono ?_
    rintro e w' ⟨rfl, rfl⟩
    exact ⟨_, rfl, World.ownsRow_nil _ _ _ _, Below.refl _ _⟩
  · obtain ⟨b, off, rfl, hb, hc⟩ := h hz
    exact within_some b off cap s hlen w hb hc

end Go.Proofs.YtjbdlihlcoldlaaGreatDoor
