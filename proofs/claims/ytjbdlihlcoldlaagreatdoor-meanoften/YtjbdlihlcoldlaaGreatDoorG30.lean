/- The contract of set.Has, at a set that is right. -/
import Derived.Test.YtjbdlihlcoldlaaGreatDoorG10
namespace Go.Proofs.YtjbdlihlcoldlaaGreatDoor
open Go.Shelf Go.RowKit Go.Lib
open Go.Sort hiding Below

theorem mono_count (f : Nat → Bool) : ∀ n, (∀ a b, a ≤ b → b < n → f a = true → f b = true) → (List.range n).countP (fun i => !f i) ≤ n ∧ (∀ j, j < (List.range n).countP (fun i => !f i) → f j = false) ∧ (∀ j, (List.range n).countP (fun i => !f i) ≤ j → j < n → f j = true) := by
  intro n
  induction n with
  | zero => intro _; simp
  | succ n ih =>
    intro hm
    obtain ⟨h1, h2, h3⟩ := ih (fun a b hab hb => hm a b hab (by omega))
    rw [List.range_succ, List.countP_append]
    cases hf : f n with
    | true =>
      have e : List.countP (fun i => !f i) [n] = 0 := by simp [hf]
      rw [e, Nat.add_zero]
      refine ⟨by omega, h2, fun j hj hn => ?_⟩
      by_cases hjn : j = n
      · rw [hjn]; exact hf
      · exact h3 j hj (by omega)
    | false =>
      have e : List.countP (fun i => !f i) [n] = 1 := by simp [hf]
      have hall : ∀ j, j < n → f j = false := fun j hj => by
        cases hfj : f j with
        | false => rfl
        | true => rw [hm j n (by omega) (by omega) hfj] at hf; cases hf
      have en : List.countP (fun i => !f i) (List.range n) = n := by
        by_cases hlt : List.countP (fun i => !f i) (List.range n) < n
        · have := h3 _ (Nat.le_refl _) hlt
          rw [hall _ hlt] at this; cases this
        · omega
      rw [e, en]
      refine ⟨by omega, fun j hj => ?_, fun j hj hn => by omega⟩
      by_cases hjn : j = n
      · rw [hjn]; exact hf
      · exact hall j (by omega)

theorem right_get {s : List RS.Rg} : ∀ {a : Int} (_ : RS.rightFrom a s = true) (j : Nat) (hj : j < s.length), a + 1 < s[j].1 ∧ s[j].1 ≤ s[j].2 ∧ s[j].2 ≤ 1114111 := by
  induction s with
  | nil => intro a _ j hj; simp at hj
  | cons r s ih =>
    intro a h j hj
    rw [RS.rightFrom_cons] at h
    cases j with
    | zero => exact ⟨h.1, h.2.1, h.2.2.1⟩
    | succ j =>
      have := ih h.2.2.2 j (by simpa using hj)
      refine ⟨?_, this.2⟩
      have h1 := this.1
      exact Int.lt_trans (show a + 1 < r.2 + 1 by omega) h1

theorem right_lt_get {s : List RS.Rg} : ∀ {a : Int} (_ : RS.rightFrom a s = true) (i j : Nat) (hij : i < j) (hj : j < s.length), (s[i]'(by omega)).2 + 1 < s[j].1 := by
  induction s with
  | nil => intro a _ i j _ hj; simp at hj
  | cons r s ih =>
    intro a h i j hij hj
    rw [RS.rightFrom_cons] at h
    cases j with
    | zero => omega
    | succ j =>
      cases i with
      | zero => exact (right_get h.2.2.2 j (by simpa using hj)).1
      | succ i => exact ih h.2.2.2 i j (by omega) (by simpa using hj)

/-- Whether the range at k ends at p or behind it. -/
def endsAt (s : List RS.Rg) (p : Int) (k : Nat) : Bool := decide (p ≤ (s[k]?.getD (0, 0)).2)

theorem endsAt_get {s : List RS.Rg} {p : Int} {k : Nat} (h : k < s.length) : endsAt s p k = decide (p ≤ s[k].2) := by
  unfold endsAt; simp [h]

theorem ends_mono {s : List RS.Rg} (h : RS.right s = true) (p : Int) : ∀ a b, a ≤ b → b < s.length → endsAt s p a = true → endsAt s p b = true := by
  intro a b hab hb
  rw [endsAt_get hb, endsAt_get (show a < s.length by omega)]
  simp only [decide_eq_true_eq]
  intro hp
  rcases Nat.lt_or_ge a b with h1 | h1
  · have := right_lt_get h a b h1 hb
    have h2 := (right_get h b hb).2.1
    omega
  · obtain rfl : a = b := by omega
    exact hp

/-- How many ranges end ahead of p. -/
def cntR (s : List RS.Rg) (p : Int) : Nat := (List.range s.length).countP (fun i => !endsAt s p i)

theorem has_cnt {s : List RS.Rg} (h : RS.right s = true) (p : Int) : RS.has s p = (decide (cntR s p < s.length) && decide ((s[cntR s p]?.getD (0, 0)).1 ≤ p)) := by
  obtain ⟨h1, h2, h3⟩ := mono_count (endsAt s p) s.length (ends_mono h p)
  change cntR s p ≤ s.length at h1
  change ∀ j, j < cntR s p → _ at h2
  change ∀ j, cntR s p ≤ j → _ at h3
  generalize cntR s p = c at h1 h2 h3 ⊢
  rw [Bool.eq_iff_iff, RS.has_iff, Bool.and_eq_true, decide_eq_true_iff, decide_eq_true_iff]
  constructor
  · rintro ⟨r, hr, hlo, hhi⟩
    obtain ⟨j, hj, rfl⟩ := List.getElem_of_mem hr
    have hcj : c ≤ j := by
      rcases Nat.lt_or_ge j c with h4 | h4
      · have := h2 j h4
        rw [endsAt_get hj] at this
        simp at this
        omega
      · exact h4
    rcases Nat.lt_or_ge c j with h4 | h4
    · have hcl : c < s.length := by omega
      have h5 := h3 c (Nat.le_refl _) hcl
      rw [endsAt_get hcl, decide_eq_true_iff] at h5
      have := right_lt_get h c j h4 hj
      omega
    · obtain rfl : c = j := by omega
      refine ⟨hj, ?_⟩
      simpa [hj] using hlo
  · rintro ⟨hc, hlo⟩
    have h5 := h3 c (Nat.le_refl _) hc
    rw [endsAt_get hc, decide_eq_true_iff] at h5
    simp [hc] at hlo
    exact ⟨s[c], List.getElem_mem hc, hlo, h5⟩

set_option maxHeartbeats 1000000 in
set_option maxRecDepth 100000 in
theorem closure49 (ba bx blk off cap : Nat) (s : List RS.Rg) (p : Int) (i : Nat) (W : World) (hi : i < s.length) (_hl : s.length ≤ 4000000)
    (ha : W.cell? ⟨ba, 0, none⟩ = some (.slice (some ⟨blk, off, none⟩) s.length cap)) (hx : W.cell? ⟨bx, 0, none⟩ = some (.int .i64 p)) (hc : W.cell? ⟨blk, off + i * 2 + 1, none⟩ = some (.int .i64 s[i].2)) :
    Calls Tryz.prog 200 (#[.int .i64 i] ++ #[.pointer (some ⟨ba, 0, none⟩), .pointer (some ⟨bx, 0, none⟩)]) W fun e w' => e = .returned (.bool (endsAt s p i)) ∧ ∃ q, w' = W.drewN q := by
  rw [endsAt_get hi]
  generalize s[i].2 = y at hc ⊢
  have hiz : (i : Int) < (s.length : Int) := by omega
  go_enter Tryz.func200, Tryz.ntmps200
  go_wp2
  go_region
  all_goals go_wp2
  all_goals go_ret
  all_goals exact ⟨by first | rfl | simp, 1, rfl⟩

set_option maxHeartbeats 1000000 in
set_option maxRecDepth 100000 in
theorem has_some (blk off cap : Nat) (s : List RS.Rg) (p : Int) (hl : s.length ≤ 4000000) (hr : RS.right s = true) (w : World) (hblk : blk < w.heap.size)
    (hc : ∀ k (h : k < s.length), w.cell? ⟨blk, off + k * 2, none⟩ = some (.int .i64 s[k].1) ∧ w.cell? ⟨blk, off + k * 2 + 1, none⟩ = some (.int .i64 s[k].2)) :
    Calls Tryz.prog 159 #[.slice (some ⟨blk, off, none⟩) s.length cap, .int .i64 p] w fun e w' => e = .returned (.bool (RS.has s p)) ∧ Below w.heap.size w w' := by
  obtain ⟨W0, hW0⟩ : ∃ W0, W0 = (w.alloc (.cells #[.slice (some ⟨blk, off, none⟩) s.length cap] 41)).alloc (.cells #[.int .i64 p] 3) := ⟨_, rfl⟩
  have hsize : W0.heap.size = w.heap.size + 1 + 1 := by rw [hW0]; simp
  have ca : W0.cell? ⟨w.heap.size, 0, none⟩ = some (.slice (some ⟨blk, off, none⟩) s.length cap) := by rw [hW0]; simp
  have cx : W0.cell? ⟨w.heap.size + 1, 0, none⟩ = some (.int .i64 p) := by rw [hW0]; simp
  have hB0 : Below w.heap.size w W0 := by rw [hW0]; exact ((Below.refl _ w).alloc (Nat.le_refl _) _).alloc (by simp) _
  have cc : ∀ k (h : k < s.length), W0.cell? ⟨blk, off + k * 2, none⟩ = some (.int .i64 s[k].1) ∧ W0.cell? ⟨blk, off + k * 2 + 1, none⟩ = some (.int .i64 s[k].2) := fun k h => ⟨(hB0.cell (by exact hblk)).trans (hc k h).1, (hB0.cell (by exact hblk)).trans (hc k h).2⟩
  have eg : ∀ args w, (callFunc 200 args).run Tryz.prog w = .ok (.enter 200 args) w := enters_of Tryz.func200 (by kernel_rfl) rfl
  have hS := Any.sort_Search Tryz.searchL 200 #[.pointer (some ⟨w.heap.size, 0, none⟩), .pointer (some ⟨w.heap.size + 1, 0, none⟩)] s.length (endsAt s p) W0 eg (by omega)
    (fun m os i hi => (closure49 w.heap.size (w.heap.size + 1) blk off cap s p i _ hi hl (cell_grown (by simp [hsize]; omega) ca m os) (cell_grown (by simp [hsize]) cx m os) (cell_grown (by simp [hsize]; omega) (cc i hi).2 m os)).mono
      fun _ _ ⟨he, q, hq⟩ => ⟨he, q, #[], by rw [hq, grow_empty]⟩) (ends_mono hr p)
  change Calls Tryz.prog 199 #[.int .i64 s.length, _] W0 (fun e w' => e = .returned (.int .i64 (cntR s p : Nat)) ∧ ∃ q os, w' = grow (W0.drewN q) os) at hS
  have hhas := has_cnt hr p
  have hcl : cntR s p ≤ s.length := (mono_count (endsAt s p) s.length (ends_mono hr p)).1
  obtain ⟨c, hcd⟩ : ∃ c, c = cntR s p := ⟨_, rfl⟩
  rw [← hcd] at hS hhas hcl
  have HH : Hid (RS.has s p = (decide (c < s.length) && decide ((s[c]?.getD (0, 0)).1 ≤ p))) := hhas
  have CC : Hid (∀ k (h : k < s.length), W0.cell? ⟨blk, off + k * 2, none⟩ = some (.int .i64 s[k].1) ∧ W0.cell? ⟨blk, off + k * 2 + 1, none⟩ = some (.int .i64 s[k].2)) := cc
  have HW0 : Hid (W0 = (w.alloc (.cells #[.slice (some ⟨blk, off, none⟩) s.length cap] 41)).alloc (.cells #[.int .i64 p] 3)) := hW0
  clear hc cc hcd hhas hr hW0
  by_cases hlt : c < s.length
  · have hcv := (CC.out c hlt).1
    obtain ⟨x, hx⟩ : ∃ x, x = s[c].1 := ⟨_, rfl⟩
    rw [← hx] at hcv
    have HX : Hid (x = s[c].1) := hx
    clear hx
    have ca' := fun q os => cell_grown (w := W0) (by simp [hsize]; omega) ca q os
    have cx' := fun q os => cell_grown (w := W0) (by simp [hsize]) cx q os
    have cv' := fun q os => cell_grown (w := W0) (by simp [hsize]; omega) hcv q os
    have hdec : decide ((c : Int) < (s.length : Int)) = true := by simp; omega
    clear ca cx hcv
    go_enter Tryz.func159, Tryz.ntmps159
    go_wp2_with (go_at_call 199; rw [← HW0.out]; refine hS.mono ?_; rintro e w' ⟨rfl, q, os, rfl⟩)
    have ca2 := ca' q os
    have cx2 := cx' q os
    have cv2 := cv' q os
    have hb2 := hB0.trans (below_grown_sl w.heap.size W0 q os (by omega))
    clear ca' cx' cv' hS HW0 CC
    generalize grow (W0.drewN q) os = W1 at ca2 cx2 cv2 hb2 ⊢
    go_quiet (fail)
    go_wp2
    go_ret
    refine ⟨ret_bool ?_, below_drewN hb2 _⟩
    rw [HH.out]
    simp [hlt, HX.out]
  · have ca' := fun q os => cell_grown (w := W0) (by simp [hsize]; omega) ca q os
    have hdec : decide ((c : Int) < (s.length : Int)) = false := by simp; omega
    clear ca cx
    go_enter Tryz.func159, Tryz.ntmps159
    go_wp2_with (go_at_call 199; rw [← HW0.out]; refine hS.mono ?_; rintro e w' ⟨rfl, q, os, rfl⟩)
    have ca2 := ca' q os
    have hb2 := hB0.trans (below_grown_sl w.heap.size W0 q os (by omega))
    clear ca' hS HW0 CC
    generalize grow (W0.drewN q) os = W1 at ca2 hb2 ⊢
    go_quiet (fail)
    go_wp2
    go_ret
    refine ⟨ret_bool ?_, below_drewN hb2 _⟩
    rw [HH.out]
    simp; omega

set_option maxHeartbeats 1000000 in
set_option maxRecDepth 100000 in
theorem has_nil (ao : Option Addr) (cap : Nat) (p : Int) (w : World) :
    Calls Tryz.prog 159 #[.slice ao 0 cap, .int .i64 p] w fun e w' => e = .returned (.bool false) ∧ Below w.heap.size w w' := by
  obtain ⟨W0, hW0⟩ : ∃ W0, W0 = (w.alloc (.cells #[.slice ao 0 cap] 41)).alloc (.cells #[.int .i64 p] 3) := ⟨_, rfl⟩
  have hsize : W0.heap.size = w.heap.size + 1 + 1 := by rw [hW0]; simp
  have ca : W0.cell? ⟨w.heap.size, 0, none⟩ = some (.slice ao 0 cap) := by rw [hW0]; simp
  have hB0 : Below w.heap.size w W0 := by rw [hW0]; exact ((Below.refl _ w).alloc (Nat.le_refl _) _).alloc (by simp) _
  have eg : ∀ args w, (callFunc 200 args).run Tryz.prog w = .ok (.enter 200 args) w := enters_of Tryz.func200 (by kernel_rfl) rfl
  have hS := Any.sort_Search Tryz.searchL 200 #[.pointer (some ⟨w.heap.size, 0, none⟩), .pointer (some ⟨w.heap.size + 1, 0, none⟩)] 0 (fun _ => true) W0 eg (by omega)
    (fun m os i hi => by omega) (fun _ _ _ _ h => h)
  change Calls Tryz.prog 199 #[.int .i64 0, _] W0 (fun e w' => e = .returned (.int .i64 0) ∧ ∃ q os, w' = grow (W0.drewN q) os) at hS
  have HW0 : Hid (W0 = (w.alloc (.cells #[.slice ao 0 cap] 41)).alloc (.cells #[.int .i64 p] 3)) := hW0
  have ca' := fun q os => cell_grown (w := W0) (by simp [hsize]; omega) ca q os
  clear ca hW0
  go_enter Tryz.func159, Tryz.ntmps159
  go_wp2_with (go_at_call 199; rw [← HW0.out]; refine hS.mono ?_; rintro e w' ⟨rfl, q, os, rfl⟩)
  have ca2 := ca' q os
  have hb2 := hB0.trans (below_grown_sl w.heap.size W0 q os (by omega))
  clear ca' hS HW0
  generalize grow (W0.drewN q) os = W1 at ca2 hb2 ⊢
  go_quiet (fail)
  go_wp2
  go_ret
  exact ⟨rfl, below_drewN hb2 _⟩

theorem has_any (v : Value) (s : List RS.Rg) (p : Int) (hl : s.length ≤ 4000000) (hr : RS.right s = true) (w : World) (hv : RgAt w.heap.size w v s) :
    Calls Tryz.prog 159 #[v, .int .i64 p] w fun e w' => e = .returned (.bool (RS.has s p)) ∧ Below w.heap.size w w' := by
  obtain ⟨ao, cap, rfl, _, h⟩ := hv
  by_cases hz : s = []
  · subst hz
    exact has_nil ao cap p w
  · obtain ⟨b, off, rfl, hb, hc⟩ := h hz
    exact has_some b off cap s p hl hr w hb hc

end Go.Proofs.YtjbdlihlcoldlaaGreatDoor
