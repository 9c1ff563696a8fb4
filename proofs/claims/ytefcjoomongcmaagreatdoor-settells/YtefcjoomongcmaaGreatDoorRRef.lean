/- The document's own Of, Or, And, Less, Not, out of told. -/
import Derived.Test.YtefcjoomongcmaaGreatDoorRToldB
namespace Go.Proofs.YtefcjoomongcmaaGreatDoor
open Go.RowKit Go.Shelf

set_option maxHeartbeats 1000000 in
set_option maxRecDepth 100000 in
theorem clos26 (bx : Nat) (v : Value) (l : List RS.Rg) (hl : l.length ≤ 1000000) (p : Int) (W : World) (hx : W.cell? ⟨bx, 0, none⟩ = some v) (hv : RgAt W.heap.size W v l) :
    Calls Tryz.prog 26 (#[.int .i64 p] ++ #[.pointer (some ⟨bx, 0, none⟩)]) W fun e W' => e = .returned (.bool (RS.has l p)) ∧ Below W.heap.size W W' := by
  have HV : Hid (RgAt W.heap.size W v l) := hv
  obtain ⟨ao, cap, hve, _, _⟩ := hv
  subst hve
  go_enter Tryz.func26, Tryz.ntmps26
  go_wp2_with fail
  refine (rhas_any _ l p hl _ HV.out).mono ?_
  rintro e w1 ⟨rfl, hb⟩
  go_wp2_with fail
  go_ret
  exact ⟨rfl, hb⟩

set_option maxHeartbeats 1000000 in
set_option maxRecDepth 100000 in
theorem clos38 (bx : Nat) (v : Value) (l : List RS.Rg) (hl : l.length ≤ 1000000) (p : Int) (W : World) (hx : W.cell? ⟨bx, 0, none⟩ = some v) (hv : RgAt W.heap.size W v l) :
    Calls Tryz.prog 38 (#[.int .i64 p] ++ #[.pointer (some ⟨bx, 0, none⟩)]) W fun e W' => e = .returned (.bool (!RS.has l p)) ∧ Below W.heap.size W W' := by
  have HV : Hid (RgAt W.heap.size W v l) := hv
  obtain ⟨ao, cap, hve, _, _⟩ := hv
  subst hve
  go_enter Tryz.func38, Tryz.ntmps38
  go_wp2_with fail
  refine (rhas_any _ l p hl _ HV.out).mono ?_
  rintro e w1 ⟨rfl, hb⟩
  go_wp2_with fail
  go_ret
  exact ⟨rfl, hb⟩

set_option maxHeartbeats 1000000 in
set_option maxRecDepth 100000 in
theorem clos34 (bx bz : Nat) (va vb : Value) (s t : List RS.Rg) (hs : s.length ≤ 1000000) (ht : t.length ≤ 1000000) (p : Int) (W : World) (hbz : bz < W.heap.size) (hx : W.cell? ⟨bx, 0, none⟩ = some va) (hz : W.cell? ⟨bz, 0, none⟩ = some vb) (ha : RgAt W.heap.size W va s) (hb : RgAt W.heap.size W vb t) :
    Calls Tryz.prog 34 (#[.int .i64 p] ++ #[.pointer (some ⟨bx, 0, none⟩), .pointer (some ⟨bz, 0, none⟩)]) W fun e W' => e = .returned (.bool (RS.has s p || RS.has t p)) ∧ Below W.heap.size W W' := by
  have HA : Hid (RgAt W.heap.size W va s) := ha
  have HB : Hid (RgAt W.heap.size W vb t) := hb
  obtain ⟨ao, cap, hve, _, _⟩ := ha
  obtain ⟨bo, cbp, hvf, _, _⟩ := hb
  subst hve
  subst hvf
  go_enter Tryz.func34, Tryz.ntmps34
  go_wp2_with fail
  refine (rhas_any _ s p hs _ HA.out).mono ?_
  rintro e w1 ⟨rfl, hb1⟩
  cases hh : RS.has s p
  · have HH : Hid (RS.has s p = false) := hh
    clear hh
    have hz1 := (hb1.cell (p := ⟨bz, 0, none⟩) (by exact hbz)).trans hz
    have HB1 : Hid (RgAt w1.heap.size w1 _ t) := HB.out.below hb1 _ hb1.size
    clear hz hx
    go_wp2_with fail
    refine (rhas_any _ t p ht _ HB1.out).mono ?_
    rintro e w2 ⟨rfl, hb2⟩
    have hb3 := hb1.trans (hb2.mono hb1.size)
    clear hb2
    go_wp2_with fail
    go_ret
    exact ⟨ret_bool (by rw [HH.out]; simp), hb3⟩
  · have HH : Hid (RS.has s p = true) := hh
    clear hh
    go_wp2_with fail
    go_ret
    exact ⟨ret_bool (by rw [HH.out]; simp), hb1⟩

set_option maxHeartbeats 1000000 in
set_option maxRecDepth 100000 in
theorem clos36 (bx bz : Nat) (va vb : Value) (s t : List RS.Rg) (hs : s.length ≤ 1000000) (ht : t.length ≤ 1000000) (p : Int) (W : World) (hbz : bz < W.heap.size) (hx : W.cell? ⟨bx, 0, none⟩ = some va) (hz : W.cell? ⟨bz, 0, none⟩ = some vb) (ha : RgAt W.heap.size W va s) (hb : RgAt W.heap.size W vb t) :
    Calls Tryz.prog 36 (#[.int .i64 p] ++ #[.pointer (some ⟨bx, 0, none⟩), .pointer (some ⟨bz, 0, none⟩)]) W fun e W' => e = .returned (.bool (RS.has s p && RS.has t p)) ∧ Below W.heap.size W W' := by
  have HA : Hid (RgAt W.heap.size W va s) := ha
  have HB : Hid (RgAt W.heap.size W vb t) := hb
  obtain ⟨ao, cap, hve, _, _⟩ := ha
  obtain ⟨bo, cbp, hvf, _, _⟩ := hb
  subst hve
  subst hvf
  go_enter Tryz.func36, Tryz.ntmps36
  go_wp2_with fail
  refine (rhas_any _ s p hs _ HA.out).mono ?_
  rintro e w1 ⟨rfl, hb1⟩
  cases hh : RS.has s p
  · have HH : Hid (RS.has s p = false) := hh
    clear hh
    go_wp2_with fail
    go_ret
    exact ⟨ret_bool (by rw [HH.out]; simp), hb1⟩
  · have HH : Hid (RS.has s p = true) := hh
    clear hh
    have hz1 := (hb1.cell (p := ⟨bz, 0, none⟩) (by exact hbz)).trans hz
    have HB1 : Hid (RgAt w1.heap.size w1 _ t) := HB.out.below hb1 _ hb1.size
    clear hz hx
    go_wp2_with fail
    refine (rhas_any _ t p ht _ HB1.out).mono ?_
    rintro e w2 ⟨rfl, hb2⟩
    have hb3 := hb1.trans (hb2.mono hb1.size)
    clear hb2
    go_wp2_with fail
    go_ret
    exact ⟨ret_bool (by rw [HH.out]; simp), hb3⟩

set_option maxHeartbeats 1000000 in
set_option maxRecDepth 100000 in
theorem clos37 (bx bz : Nat) (va vb : Value) (s t : List RS.Rg) (hs : s.length ≤ 1000000) (ht : t.length ≤ 1000000) (p : Int) (W : World) (hbz : bz < W.heap.size) (hx : W.cell? ⟨bx, 0, none⟩ = some va) (hz : W.cell? ⟨bz, 0, none⟩ = some vb) (ha : RgAt W.heap.size W va s) (hb : RgAt W.heap.size W vb t) :
    Calls Tryz.prog 37 (#[.int .i64 p] ++ #[.pointer (some ⟨bx, 0, none⟩), .pointer (some ⟨bz, 0, none⟩)]) W fun e W' => e = .returned (.bool (RS.has s p && !RS.has t p)) ∧ Below W.heap.size W W' := by
  have HA : Hid (RgAt W.heap.size W va s) := ha
  have HB : Hid (RgAt W.heap.size W vb t) := hb
  obtain ⟨ao, cap, hve, _, _⟩ := ha
  obtain ⟨bo, cbp, hvf, _, _⟩ := hb
  subst hve
  subst hvf
  go_enter Tryz.func37, Tryz.ntmps37
  go_wp2_with fail
  refine (rhas_any _ s p hs _ HA.out).mono ?_
  rintro e w1 ⟨rfl, hb1⟩
  cases hh : RS.has s p
  · have HH : Hid (RS.has s p = false) := hh
    clear hh
    go_wp2_with fail
    go_ret
    exact ⟨ret_bool (by rw [HH.out]; simp), hb1⟩
  · have HH : Hid (RS.has s p = true) := hh
    clear hh
    have hz1 := (hb1.cell (p := ⟨bz, 0, none⟩) (by exact hbz)).trans hz
    have HB1 : Hid (RgAt w1.heap.size w1 _ t) := HB.out.below hb1 _ hb1.size
    clear hz hx
    go_wp2_with fail
    refine (rhas_any _ t p ht _ HB1.out).mono ?_
    rintro e w2 ⟨rfl, hb2⟩
    have hb3 := hb1.trans (hb2.mono hb1.size)
    clear hb2
    go_wp2_with fail
    go_ret
    exact ⟨ret_bool (by rw [HH.out]; simp), hb3⟩

theorem eg26 : ∀ args w, (callFunc 26 args).run Tryz.prog w = .ok (.enter 26 args) w := enters_of Tryz.func26 (by kernel_rfl) rfl
theorem eg34 : ∀ args w, (callFunc 34 args).run Tryz.prog w = .ok (.enter 34 args) w := enters_of Tryz.func34 (by kernel_rfl) rfl
theorem eg36 : ∀ args w, (callFunc 36 args).run Tryz.prog w = .ok (.enter 36 args) w := enters_of Tryz.func36 (by kernel_rfl) rfl
theorem eg37 : ∀ args w, (callFunc 37 args).run Tryz.prog w = .ok (.enter 37 args) w := enters_of Tryz.func37 (by kernel_rfl) rfl
theorem eg38 : ∀ args w, (callFunc 38 args).run Tryz.prog w = .ok (.enter 38 args) w := enters_of Tryz.func38 (by kernel_rfl) rfl

/-- What told makes of one slice, boxed and built. -/
theorem told_one (gf : Nat) (eg : ∀ args w, (callFunc gf args).run Tryz.prog w = .ok (.enter gf args) w) (f : Int → Bool) (t : TypeId) (v : Value) (l : List RS.Rg) (hl : l.length ≤ 400) (w : World) (hv : RgAt w.heap.size w v l)
    (hclos : ∀ (p : Int) (W : World), W.cell? ⟨w.heap.size, 0, none⟩ = some v → RgAt W.heap.size W v l → Calls Tryz.prog gf (#[.int .i64 p] ++ #[.pointer (some ⟨w.heap.size, 0, none⟩)]) W fun e W' => e = .returned (.bool (f p)) ∧ Below W.heap.size W W')
    (hf : ∀ p, 0 < p → p ≤ 1114111 → f p ≠ f (p - 1) → p ∈ RS.places l) :
    Calls Tryz.prog 25 #[.func (.func gf) #[] #[.pointer (some ⟨w.heap.size, 0, none⟩)], .slice (some ⟨w.heap.size + 1, 0, none⟩) 1 1] ((w.alloc (.cells #[v] t)).alloc (.cells #[v] 22)) fun e w' => ∃ v' s, e = .returned v' ∧ RS.right s = true ∧ (∀ p, RS.mem s p ↔ 0 ≤ p ∧ p ≤ 1114111 ∧ f p = true) ∧ s.length ≤ 2 + 2 * l.length ∧ w'.ownsRow w.heap.size 42 2 v' s.length (flat2 s) ∧ Below w.heap.size w w' := by
  obtain ⟨W0, hW0⟩ : ∃ W0, W0 = (w.alloc (.cells #[v] t)).alloc (.cells #[v] 22) := ⟨_, rfl⟩
  have hsize : W0.heap.size = w.heap.size + 1 + 1 := by rw [hW0]; simp
  have c0 : W0.cell? ⟨w.heap.size, 0, none⟩ = some v := by rw [hW0]; simp
  have c1 : W0.cell? ⟨w.heap.size + 1, 0, none⟩ = some v := by
    rw [hW0]
    have := heap_alloc_new (w.alloc (.cells #[v] t)) (.cells #[v] 22)
    simp at this
    simp [World.cell?, this]
  have hB0 : Below w.heap.size w W0 := by rw [hW0]; exact ((Below.refl _ w).alloc (Nat.le_refl _) _).alloc (by simp) _
  rw [← hW0]
  have htot : tot [l] = l.length := by simp [tot]
  have hv0 : RgAt W0.heap.size W0 v l := hv.below hB0 _ hB0.size
  refine (told_any gf #[.pointer (some ⟨w.heap.size, 0, none⟩)] eg f (w.heap.size + 1) 1 [l] (by simp) (by simp) (by rw [htot]; omega) W0 (by omega) ?_ ?_ ?_).mono ?_
  · intro k hk
    obtain rfl : k = 0 := by simpa using hk
    exact ⟨v, c1, hv0⟩
  · intro p W hb
    exact hclos p W ((hb.cell (p := ⟨w.heap.size, 0, none⟩) (by show w.heap.size < _; omega)).trans c0) (hv0.below hb _ hb.size)
  · intro p h1 h2 h3
    exact ⟨l, by simp, hf p h1 h2 h3⟩
  · rintro e w' ⟨v', s, rfl, h1, h2, h3, h4, h5⟩
    rw [htot] at h3
    exact ⟨v', s, rfl, h1, h2, h3, owns_mono h4 (by omega), hB0.trans (h5.mono (by omega))⟩

/-- What told makes of two slices. -/
theorem told_two (gf : Nat) (eg : ∀ args w, (callFunc gf args).run Tryz.prog w = .ok (.enter gf args) w) (f : Int → Bool) (va vb : Value) (s t : List RS.Rg) (hs : s.length ≤ 400) (ht : t.length ≤ 400) (w : World) (ha : RgAt w.heap.size w va s) (hb : RgAt w.heap.size w vb t)
    (hclos : ∀ (p : Int) (W : World), w.heap.size + 1 < W.heap.size → W.cell? ⟨w.heap.size, 0, none⟩ = some va → W.cell? ⟨w.heap.size + 1, 0, none⟩ = some vb → RgAt W.heap.size W va s → RgAt W.heap.size W vb t → Calls Tryz.prog gf (#[.int .i64 p] ++ #[.pointer (some ⟨w.heap.size, 0, none⟩), .pointer (some ⟨w.heap.size + 1, 0, none⟩)]) W fun e W' => e = .returned (.bool (f p)) ∧ Below W.heap.size W W')
    (hf : ∀ p, 0 < p → p ≤ 1114111 → f p ≠ f (p - 1) → p ∈ RS.places s ∨ p ∈ RS.places t) :
    Calls Tryz.prog 25 #[.func (.func gf) #[] #[.pointer (some ⟨w.heap.size, 0, none⟩), .pointer (some ⟨w.heap.size + 1, 0, none⟩)], .slice (some ⟨w.heap.size + 1 + 1, 0, none⟩) 2 2] (((w.alloc (.cells #[va] 24)).alloc (.cells #[vb] 24)).alloc (.cells #[va, vb] 22)) fun e w' => ∃ v' r, e = .returned v' ∧ RS.right r = true ∧ (∀ p, RS.mem r p ↔ 0 ≤ p ∧ p ≤ 1114111 ∧ f p = true) ∧ r.length ≤ 2 + 2 * (s.length + t.length) ∧ w'.ownsRow w.heap.size 42 2 v' r.length (flat2 r) ∧ Below w.heap.size w w' := by
  obtain ⟨W0, hW0⟩ : ∃ W0, W0 = ((w.alloc (.cells #[va] 24)).alloc (.cells #[vb] 24)).alloc (.cells #[va, vb] 22) := ⟨_, rfl⟩
  have hsize : W0.heap.size = w.heap.size + 1 + 1 + 1 := by rw [hW0]; simp
  have hb1 : W0.heap[w.heap.size]? = some (.cells #[va] 24) := by rw [hW0]; rw [heap_alloc_old _ _ (by simp; omega), heap_alloc_old _ _ (by simp)]; exact heap_alloc_new _ _
  have hb2 : W0.heap[w.heap.size + 1]? = some (.cells #[vb] 24) := by
    rw [hW0, heap_alloc_old _ _ (by simp)]
    have := heap_alloc_new (w.alloc (.cells #[va] 24)) (.cells #[vb] 24)
    simpa using this
  have hb3 : W0.heap[w.heap.size + 1 + 1]? = some (.cells #[va, vb] 22) := by rw [hW0]; exact heap3 w _ _ _
  have c0 : W0.cell? ⟨w.heap.size, 0, none⟩ = some va := by simp [World.cell?, hb1]
  have c1 : W0.cell? ⟨w.heap.size + 1, 0, none⟩ = some vb := by simp [World.cell?, hb2]
  have d0 : W0.cell? ⟨w.heap.size + 1 + 1, 0, none⟩ = some va := by simp [World.cell?, hb3]
  have d1 : W0.cell? ⟨w.heap.size + 1 + 1, 1, none⟩ = some vb := by simp [World.cell?, hb3]
  have hB0 : Below w.heap.size w W0 := by rw [hW0]; exact (((Below.refl _ w).alloc (Nat.le_refl _) _).alloc (by simp) _).alloc (by simp; omega) _
  rw [← hW0]
  have htot : tot [s, t] = s.length + t.length := by simp [tot]
  have ha0 : RgAt W0.heap.size W0 va s := ha.below hB0 _ hB0.size
  have hbb : RgAt W0.heap.size W0 vb t := hb.below hB0 _ hB0.size
  refine (told_any gf #[.pointer (some ⟨w.heap.size, 0, none⟩), .pointer (some ⟨w.heap.size + 1, 0, none⟩)] eg f (w.heap.size + 1 + 1) 2 [s, t] (by simp) (by simp) (by rw [htot]; omega) W0 (by omega) ?_ ?_ ?_).mono ?_
  · intro k hk
    match k, hk with
    | 0, _ => exact ⟨va, d0, ha0⟩
    | 1, _ => exact ⟨vb, d1, hbb⟩
    | k + 2, hk => exact absurd (show k + 2 < 2 from hk) (by omega)
  · intro p W hb
    have hs := hb.size
    exact hclos p W (by omega) ((hb.cell (p := ⟨w.heap.size, 0, none⟩) (by show w.heap.size < _; omega)).trans c0) ((hb.cell (p := ⟨w.heap.size + 1, 0, none⟩) (by show w.heap.size + 1 < _; omega)).trans c1) (ha0.below hb _ hb.size) (hbb.below hb _ hb.size)
  · intro p h1 h2 h3
    rcases hf p h1 h2 h3 with h | h
    · exact ⟨s, by simp, h⟩
    · exact ⟨t, by simp, h⟩
  · rintro e w' ⟨v', r, rfl, h1, h2, h3, h4, h5⟩
    rw [htot] at h3
    exact ⟨v', r, rfl, h1, h2, h3, owns_mono h4 (by omega), hB0.trans (h5.mono (by omega))⟩

/-- A value of the document's is the set that these points are. -/
def RefOf (w : World) (n : Nat) (f : Int → Bool) (e : Ending) (w' : World) : Prop :=
  ∃ v s, e = .returned v ∧ RS.right s = true ∧ (∀ p, RS.mem s p ↔ 0 ≤ p ∧ p ≤ 1114111 ∧ f p = true) ∧ s.length ≤ n ∧ w'.ownsRow w.heap.size 42 2 v s.length (flat2 s) ∧ Below w.heap.size w w'

set_option maxHeartbeats 1000000 in
set_option maxRecDepth 100000 in
theorem rof_any (v : Value) (l : List RS.Rg) (hl : l.length ≤ 400) (w : World) (hv : RgAt w.heap.size w v l) :
    Calls Tryz.prog 6 #[v] w (RefOf w (2 + 2 * l.length) (RS.has l)) := by
  have HT := told_one 26 eg26 (RS.has l) 22 v l hl w hv (fun p W hx hv => clos26 w.heap.size v l (by omega) p W hx hv) (RS.has_turns l)
  obtain ⟨ao, cap, hve, _, _⟩ := hv
  subst hve
  go_enter Tryz.func6, Tryz.ntmps6
  go_wp2_with fail
  refine HT.mono ?_
  rintro e w1 ⟨v1, s, rfl, h1, h2, h3, h4, h5⟩
  have R : Hid (RS.right s = true ∧ (∀ p, RS.mem s p ↔ 0 ≤ p ∧ p ≤ 1114111 ∧ RS.has l p = true) ∧ s.length ≤ 2 + 2 * l.length ∧ w1.ownsRow w.heap.size 42 2 v1 s.length (flat2 s)) := ⟨h1, h2, h3, h4⟩
  clear h1 h2 h3 h4 HT
  go_wp2_with fail
  go_ret
  exact ⟨_, s, rfl, R.out.1, R.out.2.1, R.out.2.2.1, R.out.2.2.2, h5⟩

set_option maxHeartbeats 1000000 in
set_option maxRecDepth 100000 in
theorem rnot_any (v : Value) (l : List RS.Rg) (hl : l.length ≤ 400) (w : World) (hv : RgAt w.heap.size w v l) :
    Calls Tryz.prog 18 #[v] w (RefOf w (2 + 2 * l.length) (fun p => !RS.has l p)) := by
  have HT := told_one 38 eg38 (fun p => !RS.has l p) 24 v l hl w hv (fun p W hx hv => clos38 w.heap.size v l (by omega) p W hx hv) (fun p h1 h2 h3 => RS.has_turns l p h1 h2 (fun e => h3 (by simp only [e])))
  obtain ⟨ao, cap, hve, _, _⟩ := hv
  subst hve
  go_enter Tryz.func18, Tryz.ntmps18
  go_wp2_with fail
  refine HT.mono ?_
  rintro e w1 ⟨v1, s, rfl, h1, h2, h3, h4, h5⟩
  have R : Hid (RS.right s = true ∧ (∀ p, RS.mem s p ↔ 0 ≤ p ∧ p ≤ 1114111 ∧ (!RS.has l p) = true) ∧ s.length ≤ 2 + 2 * l.length ∧ w1.ownsRow w.heap.size 42 2 v1 s.length (flat2 s)) := ⟨h1, h2, h3, h4⟩
  clear h1 h2 h3 h4 HT
  go_wp2_with fail
  go_ret
  exact ⟨_, s, rfl, R.out.1, R.out.2.1, R.out.2.2.1, R.out.2.2.2, h5⟩

theorem turns_two {f : Bool → Bool → Bool} (s t : List RS.Rg) (p : Int) (h0 : 0 < p) (h1 : p ≤ 1114111) (h : f (RS.has s p) (RS.has t p) ≠ f (RS.has s (p - 1)) (RS.has t (p - 1))) : p ∈ RS.places s ∨ p ∈ RS.places t := by
  by_cases e1 : RS.has s p = RS.has s (p - 1)
  · by_cases e2 : RS.has t p = RS.has t (p - 1)
    · exact absurd (by rw [e1, e2]) h
    · exact .inr (RS.has_turns t p h0 h1 e2)
  · exact .inl (RS.has_turns s p h0 h1 e1)

set_option maxHeartbeats 1000000 in
set_option maxRecDepth 100000 in
theorem ror_any (va vb : Value) (s t : List RS.Rg) (hs : s.length ≤ 400) (ht : t.length ≤ 400) (w : World) (ha : RgAt w.heap.size w va s) (hb : RgAt w.heap.size w vb t) :
    Calls Tryz.prog 12 #[va, vb] w (RefOf w (2 + 2 * (s.length + t.length)) (fun p => RS.has s p || RS.has t p)) := by
  have HT := told_two 34 eg34 (fun p => RS.has s p || RS.has t p) va vb s t hs ht w ha hb (fun p W hbz hx hz ha hb => clos34 w.heap.size (w.heap.size + 1) va vb s t (by omega) (by omega) p W hbz hx hz ha hb) (fun p h1 h2 h3 => turns_two (f := fun a b => a || b) s t p h1 h2 h3)
  obtain ⟨ao, cap, hve, _, _⟩ := ha
  obtain ⟨bo, cbp, hvf, _, _⟩ := hb
  subst hve
  subst hvf
  go_enter Tryz.func12, Tryz.ntmps12
  go_wp2_with fail
  refine HT.mono ?_
  rintro e w1 ⟨v1, r, rfl, h1, h2, h3, h4, h5⟩
  have R : Hid (RS.right r = true ∧ (∀ p, RS.mem r p ↔ 0 ≤ p ∧ p ≤ 1114111 ∧ (RS.has s p || RS.has t p) = true) ∧ r.length ≤ 2 + 2 * (s.length + t.length) ∧ w1.ownsRow w.heap.size 42 2 v1 r.length (flat2 r)) := ⟨h1, h2, h3, h4⟩
  clear h1 h2 h3 h4 HT
  go_wp2_with fail
  go_ret
  exact ⟨_, r, rfl, R.out.1, R.out.2.1, R.out.2.2.1, R.out.2.2.2, h5⟩

set_option maxHeartbeats 1000000 in
set_option maxRecDepth 100000 in
theorem rand_any (va vb : Value) (s t : List RS.Rg) (hs : s.length ≤ 400) (ht : t.length ≤ 400) (w : World) (ha : RgAt w.heap.size w va s) (hb : RgAt w.heap.size w vb t) :
    Calls Tryz.prog 14 #[va, vb] w (RefOf w (2 + 2 * (s.length + t.length)) (fun p => RS.has s p && RS.has t p)) := by
  have HT := told_two 36 eg36 (fun p => RS.has s p && RS.has t p) va vb s t hs ht w ha hb (fun p W hbz hx hz ha hb => clos36 w.heap.size (w.heap.size + 1) va vb s t (by omega) (by omega) p W hbz hx hz ha hb) (fun p h1 h2 h3 => turns_two (f := fun a b => a && b) s t p h1 h2 h3)
  obtain ⟨ao, cap, hve, _, _⟩ := ha
  obtain ⟨bo, cbp, hvf, _, _⟩ := hb
  subst hve
  subst hvf
  go_enter Tryz.func14, Tryz.ntmps14
  go_wp2_with fail
  refine HT.mono ?_
  rintro e w1 ⟨v1, r, rfl, h1, h2, h3, h4, h5⟩
  have R : Hid (RS.right r = true ∧ (∀ p, RS.mem r p ↔ 0 ≤ p ∧ p ≤ 1114111 ∧ (RS.has s p && RS.has t p) = true) ∧ r.length ≤ 2 + 2 * (s.length + t.length) ∧ w1.ownsRow w.heap.size 42 2 v1 r.length (flat2 r)) := ⟨h1, h2, h3, h4⟩
  clear h1 h2 h3 h4 HT
  go_wp2_with fail
  go_ret
  exact ⟨_, r, rfl, R.out.1, R.out.2.1, R.out.2.2.1, R.out.2.2.2, h5⟩

set_option maxHeartbeats 1000000 in
set_option maxRecDepth 100000 in
theorem rless_any (va vb : Value) (s t : List RS.Rg) (hs : s.length ≤ 400) (ht : t.length ≤ 400) (w : World) (ha : RgAt w.heap.size w va s) (hb : RgAt w.heap.size w vb t) :
    Calls Tryz.prog 16 #[va, vb] w (RefOf w (2 + 2 * (s.length + t.length)) (fun p => RS.has s p && !RS.has t p)) := by
  have HT := told_two 37 eg37 (fun p => RS.has s p && !RS.has t p) va vb s t hs ht w ha hb (fun p W hbz hx hz ha hb => clos37 w.heap.size (w.heap.size + 1) va vb s t (by omega) (by omega) p W hbz hx hz ha hb) (fun p h1 h2 h3 => turns_two (f := fun a b => a && !b) s t p h1 h2 h3)
  obtain ⟨ao, cap, hve, _, _⟩ := ha
  obtain ⟨bo, cbp, hvf, _, _⟩ := hb
  subst hve
  subst hvf
  go_enter Tryz.func16, Tryz.ntmps16
  go_wp2_with fail
  refine HT.mono ?_
  rintro e w1 ⟨v1, r, rfl, h1, h2, h3, h4, h5⟩
  have R : Hid (RS.right r = true ∧ (∀ p, RS.mem r p ↔ 0 ≤ p ∧ p ≤ 1114111 ∧ (RS.has s p && !RS.has t p) = true) ∧ r.length ≤ 2 + 2 * (s.length + t.length) ∧ w1.ownsRow w.heap.size 42 2 v1 r.length (flat2 r)) := ⟨h1, h2, h3, h4⟩
  clear h1 h2 h3 h4 HT
  go_wp2_with fail
  go_ret
  exact ⟨_, r, rfl, R.out.1, R.out.2.1, R.out.2.2.1, R.out.2.2.2, h5⟩

end Go.Proofs.YtefcjoomongcmaaGreatDoor
