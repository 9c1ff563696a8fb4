/- Sorting ranges by their beginnings: the shelf's contract of slices.SortFunc, at the closure of set.Of. -/
import Derived.Test.YtefcjoomongcmaaGreatDoorSWithin
import Derived.Test.YtefcjoomongcmaaGreatDoorShelf
namespace Go.Proofs.YtefcjoomongcmaaGreatDoor
open Go.Shelf Go.RowKit Go.Lib Go.Sort

def cf (x y : RS.Rg) : Int := if x.1 < y.1 then -1 else if y.1 < x.1 then 1 else 0

theorem ltLo (x y : RS.Rg) : ltOf cf x y = decide (x.1 < y.1) := by
  unfold ltOf cf
  by_cases h1 : x.1 < y.1
  · simp [h1]
  · by_cases h2 : y.1 < x.1 <;> simp [h1, h2]

theorem swoLo : SWO (ltOf cf) where
  irrefl x := by rw [ltLo]; simp
  trans x y z h1 h2 := by rw [ltLo] at *; simp at *; omega
  ntrans x y z h1 h2 := by rw [ltLo] at *; simp at *; omega

set_option maxHeartbeats 1000000 in
set_option maxRecDepth 100000 in
theorem compare_any (x y : Int) (w : World) :
    Calls Tryz.prog 30 #[.int .i64 x, .int .i64 y] w fun e w' => e = .returned (.int .i64 (if x < y then -1 else if y < x then 1 else 0)) ∧ w' = w := by
  by_cases h1 : x < y
  · rw [if_pos h1]
    have h1' : ((x : Int) != x) = false := by simp
    have h2' : ((y : Int) != y) = false := by simp
    go_enter Tryz.func30, Tryz.ntmps30
    go_wp2
    go_ret
    exact ⟨rfl, rfl⟩
  · rw [if_neg h1]
    by_cases h2 : y < x
    · rw [if_pos h2]
      have h1' : ((x : Int) != x) = false := by simp
      have h2' : ((y : Int) != y) = false := by simp
      go_enter Tryz.func30, Tryz.ntmps30
      go_wp2
      go_ret
      exact ⟨rfl, rfl⟩
    · rw [if_neg h2]
      have h1' : ((x : Int) != x) = false := by simp
      have h2' : ((y : Int) != y) = false := by simp
      go_enter Tryz.func30, Tryz.ntmps30
      go_wp2
      go_ret
      exact ⟨rfl, rfl⟩

set_option maxHeartbeats 1000000 in
set_option maxRecDepth 100000 in
theorem closure44 (x y : RS.Rg) (W : World) : Calls Tryz.prog 29 #[.agg #[.int .i64 x.1, .int .i64 x.2], .agg #[.int .i64 y.1, .int .i64 y.2]] W fun e w' => e = .returned (.int .i64 (cf x y)) ∧ ∃ q os', w' = grow (W.drewN q) os' := by
  have hcon := fun W' => compare_any x.1 y.1 W'
  change ∀ W', Calls Tryz.prog 30 _ W' (fun e w' => e = .returned (.int .i64 (cf x y)) ∧ w' = W') at hcon
  generalize cf x y = r at hcon ⊢
  go_enter Tryz.func29, Tryz.ntmps29
  go_wp2_with (go_at_call 30; refine (hcon _).mono ?_; rintro e w' ⟨rfl, rfl⟩)
  go_ret
  exact ⟨rfl, 0, _, by rw [alloc_eq_grow, alloc_eq_grow, grow_grow]; rfl⟩

theorem cmpLays44 (blk off size : Nat) (w : World) : CmpLays Tryz.prog 29 #[] cells2 2 cf blk off size w :=
  fun _ _ _ _ x y => closure44 x y _

theorem flatK_cells2 (d : Array RS.Rg) : (flatK cells2 2 d).toList = flat2 d.toList := by
  apply List.ext_getElem?
  intro t
  by_cases h : t < d.size * 2
  · have hk : t / 2 < d.toList.length := by simp; omega
    obtain ⟨h1, h2⟩ := flat2_get d.toList (t / 2) hk
    have hs : t < (flatK cells2 2 d).toList.length := by simpa using h
    have e : (flatK cells2 2 d).toList[t]? = some (flatK cells2 2 d)[t]! := by
      rw [List.getElem?_eq_getElem hs]
      simp at hs
      simp [hs]
    rw [e, get_flatK _ _ _ _ h]
    have hd : d[t / 2]! = d.toList[t / 2] := by
      have : t / 2 < d.size := by simpa using hk
      simp [this]
    rw [hd]
    rcases Nat.mod_two_eq_zero_or_one t with hm | hm
    · have ht : t / 2 * 2 = t := by omega
      rw [ht] at h1
      rw [h1, hm]; rfl
    · have ht : t / 2 * 2 + 1 = t := by omega
      rw [ht] at h2
      rw [h2, hm]; rfl
  · rw [List.getElem?_eq_none (by simp; omega), List.getElem?_eq_none (by rw [flat2_length]; simp; omega)]

theorem holds2 {w : World} {g cap n : Nat} {cur : Array Value} {s : List RS.Rg} (hh : w.heap[g]? = some (.cells cur 42)) (ht : cur.toList.take n = flat2 s) (hn : n = s.length * 2) (_hc : n ≤ cap) : HoldsK cells2 2 w g 0 s.toArray := by
  intro j hj
  have hj' : j < s.length * 2 := by simpa using hj
  refine ⟨?_, by simp [World.frozen?, hh]⟩
  have h1 : (cur.toList.take n)[j]? = (flat2 s)[j]? := by rw [ht]
  rw [List.getElem?_take_of_lt (by omega)] at h1
  have h2 := flatK_cells2 s.toArray
  have h3 : (flatK cells2 2 s.toArray).toList[j]? = some (flatK cells2 2 s.toArray)[j]! := by
    have hs : j < (flatK cells2 2 s.toArray).toList.length := by simpa using hj'
    rw [List.getElem?_eq_getElem hs]
    simp at hs
    simp [hs]
  rw [h2] at h3
  simp only [World.cell?, hh, Nat.zero_add]
  simp only [Option.isSome_none, Bool.false_eq_true, if_false]
  rw [← Array.getElem?_toList, h1, h3]
  rfl

theorem heap_sorted2 {w : World} {g n : Nat} {os : Array Obj} {cur : Array Value} {e : TypeId} {fr : Nat × Nat} (d : Array Value) (hb : w.heap[g]? = some (.cells cur e fr)) :
    (grow (putRow id (Sort.ahead w n) g 0 d) os).heap[g]? = some (.cells (putCells id 0 d cur) e fr) := by
  have hg : g < w.heap.size := (Array.getElem?_eq_some_iff.1 hb).1
  rw [heap_grow_old _ _ (by simpa using hg)]
  simp [putRow, mapBlock, Sort.ahead, Array.getElem?_modify, hb, onCells]

theorem grownBy_sorted2 {w : World} {g n : Nat} {os : Array Obj} (d : Array Value) : w.grownBy (grow (putRow id (Sort.ahead w n) g 0 d) os) (some g) := by
  refine ⟨rfl, rfl, rfl, by simp, fun k hk hne => ?_⟩
  rw [heap_grow_old _ _ (by simpa using hk)]
  have : g ≠ k := fun e => hne (by rw [e])
  simp [putRow, mapBlock, Sort.ahead, Array.getElem?_modify, this]

theorem take_putCells2 (cur : Array Value) (d : Array Value) (h : d.size ≤ cur.size) : (putCells id 0 d cur).toList.take d.size = d.toList := by
  apply List.ext_getElem?
  intro j
  by_cases hj : j < d.size
  · rw [List.getElem?_take_of_lt hj, Array.getElem?_toList]
    simp [putCells, hj, show j < cur.size by omega]
  · rw [List.getElem?_take_eq_none (by omega), List.getElem?_eq_none (by simp; omega)]

theorem permIn_all {d d' : Array RS.Rg} (h : PermIn 0 d.size d d') : d'.toList.Perm d.toList := by
  obtain ⟨h1, _, h3⟩ := h
  have e : d.extract 0 d.size = d := by simp
  have e' : d'.extract 0 d.size = d' := by rw [← h1]; simp
  rwa [e, e'] at h3

theorem sortedIn_all {d' : Array RS.Rg} {n : Nat} (hn : n = d'.size) (h : SortedIn (ltOf cf) 0 n d') : d'.toList.Pairwise (fun x y => x.1 ≤ y.1) := by
  rw [List.pairwise_iff_getElem]
  intro i j hi hj hij
  have := h i j (Nat.zero_le _) hij (by simp at hj; omega)
  rw [ltLo] at this
  simp at hi hj
  simp [hi, hj] at this
  simpa using this

/-- slices.SortFunc over a row of the call's own. -/
theorem sort_any {B : Nat} (v : Value) (s : List RS.Rg) (hlen : s.length ≤ 1000000) (hs0 : s ≠ []) (w : World) (hB : B ≤ w.heap.size) (hown : w.ownsRow B 42 2 v s.length (flat2 s)) :
    Calls Tryz.prog 28 #[v, .func (.func 29) #[] #[]] w fun e w' => e = .returned (.tuple #[]) ∧ ∃ d : List RS.Rg, d.Perm s ∧ d.Pairwise (fun x y => x.1 ≤ y.1) ∧ w'.ownsRow B 42 2 v s.length (flat2 d) ∧ Below B w w' := by
  obtain ⟨h1, h2 | ⟨g, cap, cur, rfl, hg, hh, hn, hc, hs, ht⟩⟩ := hown
  · exact absurd (List.length_eq_zero_iff.1 h2.2) hs0
  · have hH := holds2 hh ht rfl (cap := s.length * 2) (Nat.le_refl _)
    have eg : ∀ args w, (callFunc 29 args).run Tryz.prog w = .ok (.enter 29 args) w := enters_of Tryz.func29 (by kernel_rfl) rfl
    have hcon := AnyQ.slices_SortFunc Tryz.sortL 2 Tryz.isAgg42 Tryz.sizeOf42 cells2 (fun _ => rfl) (fun x v hv => cells2_one x v hv) cf swoLo 29 #[] g 0 cap s.toArray w eg (cmpLays44 g 0 _ w) hH (lt_of_block hh) (by simp; omega)
    change Calls Tryz.prog 28 #[.slice (some ⟨g, 0, none⟩) s.length cap, .func (.func 29) #[] #[]] w _ at hcon
    refine hcon.mono ?_
    rintro e w' ⟨rfl, d', n, os, hp, hso, rfl⟩
    have hsz : d'.size = s.length := by have := hp.1; simpa using this
    have hperm := permIn_all hp
    refine ⟨rfl, d'.toList, by simpa using hperm, sortedIn_all (n := s.toArray.size) (by simp [hsz]) hso, ?_, ?_⟩
    · refine ⟨by rw [flat2_length]; simp [hsz], .inr ⟨g, cap, _, rfl, hg, heap_sorted2 _ hh, hn, hc, by simp [putCells, hs], ?_⟩⟩
      have h := take_putCells2 cur (flatK cells2 2 d') (by simp [hsz, hs]; omega)
      rw [flatK_cells2] at h
      rw [← h]
      simp [hsz]
    · exact (Below.refl B w).grown (grownBy_sorted2 _) hB (fun k hk => by cases hk; exact hg)

end Go.Proofs.YtefcjoomongcmaaGreatDoor
